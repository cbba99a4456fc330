/- Fractions in the program: reduced, counted; in the reference: gcd, Of, Add, Sub, Mul, Less, Lowest, whole. -/
import Derived.Test.YtoeimngbpagegaaDoorGc
import Derived.IntWalk
namespace Go.Proofs.YtoeimngbpagegaaDoor
open Go.RowKit

theorem gcd_step (x y : Int) : Int.gcd y (x.tmod y) = Int.gcd x y := by
  simp only [Int.gcd, Int.natAbs_tmod]
  rw [Nat.gcd_comm y.natAbs, ← Nat.gcd_rec, Nat.gcd_comm]
theorem tmod_lt (x y : Int) (hy : y ≠ 0) : (x.tmod y).natAbs < y.natAbs := by
  rw [Int.natAbs_tmod]
  exact Nat.mod_lt _ (by omega)
theorem quo_pos {a b g : Int} (hg : gI a b = g) (h : 0 < b) : a.tdiv g = rN a b ∧ b.tdiv g = rD a b := by
  subst hg
  have h0 : b ≠ 0 := by omega
  rw [Int.tdiv_eq_ediv_of_dvd (gI_dvd_left a b), Int.tdiv_eq_ediv_of_dvd (gI_dvd_right a b)]
  unfold rN rD
  rw [Int.sign_eq_one_of_pos h, Int.mul_one, Int.natAbs_of_nonneg (by omega)]
  exact ⟨rfl, rfl⟩
theorem quo_neg {a b g : Int} (hg : gI a b = g) (h : b < 0) : a.tdiv (-g) = rN a b ∧ b.tdiv (-g) = rD a b := by
  subst hg
  have h0 : b ≠ 0 := by omega
  rw [Int.tdiv_neg, Int.tdiv_neg, Int.tdiv_eq_ediv_of_dvd (gI_dvd_left a b), Int.tdiv_eq_ediv_of_dvd (gI_dvd_right a b)]
  unfold rN rD
  rw [Int.sign_eq_neg_one_of_neg h, Int.ofNat_natAbs_of_nonpos (by omega), Int.mul_neg, Int.mul_one]
  rw [Int.neg_ediv_of_dvd (gI_dvd_left a b), Int.neg_ediv_of_dvd (gI_dvd_right a b)]
  exact ⟨rfl, rfl⟩
theorem quo_pos' {a b g : Int} (hg : gI a b = g) (h : 0 < b) : a.tdiv g = rN a b ∧ b / g = rD a b := by
  refine ⟨(quo_pos hg h).1, ?_⟩
  rw [← (quo_pos hg h).2, Int.tdiv_eq_ediv_of_nonneg (by omega)]
theorem quo_neg' {a b g : Int} (hg : gI a b = g) (h : b < 0) (ha : a.natAbs ≤ 4000000000000000000) (hb : b.natAbs ≤ 4000000000000000000) : wrap64 (-a.tdiv g) = rN a b ∧ wrap64 (-b.tdiv g) = rD a b := by
  have h1 := quo_neg hg h
  rw [Int.tdiv_neg, Int.tdiv_neg] at h1
  have h0 : b ≠ 0 := by omega
  have h2 := rN_abs (a := a) h0
  have h3 := rD_le (a := a) h0
  have h4 := rD_pos (a := a) h0
  rw [h1.1, h1.2]
  exact ⟨IntWalk.wrap64_in _ (by omega), IntWalk.wrap64_in _ (by omega)⟩
theorem two_set {W : World} {B : Nat} {u0 u1 : Value} (c0 : W.cell? ⟨B, 0, none⟩ = some u0) (c1 : W.cell? ⟨B, 1, none⟩ = some u1) (v0 v1 : Value) :
    (W.setCell ⟨B, 0, none⟩ v0).cell? ⟨B, 0, none⟩ = some v0 ∧ ((W.setCell ⟨B, 0, none⟩ v0).setCell ⟨B, 1, none⟩ v1).cell? ⟨B, 1, none⟩ = some v1 := by
  refine ⟨World.cell?_setCell_same _ _ _ c0, World.cell?_setCell_same _ _ _ (u := u1) ?_⟩
  rw [World.cell?_setCell_other _ _ _ _ (by simp)]
  exact c1
set_option maxHeartbeats 1000000 in
set_option maxRecDepth 1000000 in
theorem reduced_any (a b : Int) (hb0 : b ≠ 0) (ha : a.natAbs ≤ 4000000000000000000) (hb : b.natAbs ≤ 4000000000000000000) (w : World) :
    Calls Tryd.prog 72 #[.int .i64 a, .int .i64 b] w fun e w' => e = .returned (.agg #[.int .i64 (rN a b), .int .i64 (rD a b)]) ∧ Below w.heap.size w w' := by
  have H0 := Lib.hid hb0
  have HA := Lib.hid ha
  have HB := Lib.hid hb
  clear ha hb hb0
  have hca : (w.alloc (.cells #[.int .i64 0, .int .i64 0] 48)).cell? ⟨w.heap.size, 0, none⟩ = some (.int .i64 0) := by simp [World.cell?_alloc_at]
  have hcb : (w.alloc (.cells #[.int .i64 0, .int .i64 0] 48)).cell? ⟨w.heap.size, 1, none⟩ = some (.int .i64 0) := by simp [World.cell?_alloc_at]
  have hfr : ∀ o, (w.alloc (.cells #[.int .i64 0, .int .i64 0] 48)).frozen? ⟨w.heap.size, o, none⟩ = false := fun o => by simp [World.frozen?_alloc_at]
  have HW := Lib.hid ((Below.refl w.heap.size w).alloc (Nat.le_refl _) (.cells #[.int .i64 0, .int .i64 0] 48))
  have HCA := Lib.hid hca
  have HCB := Lib.hid hcb
  have HFR := Lib.hid hfr
  clear hca hcb hfr
  go_enter Tryd.func72, Tryd.ntmps72
  go_wp2
  generalize w.alloc (.cells #[.int .i64 0, .int .i64 0] 48) = W0 at *
  go_loopw [5, 6] (fun d r wr => ∃ x y : Int, d = .int .i64 x ∧ r = .int .i64 y ∧ Int.gcd x y = Int.gcd a b ∧ x.natAbs ≤ 4000000000000000000 ∧ y.natAbs ≤ 4000000000000000000 ∧ Dn W0 wr) (fun _ r _ => (intOf r).natAbs)
  case atStart => exact ⟨b, a, rfl, rfl, Int.gcd_comm _ _, HB.out, HA.out, Dn.refl _⟩
  case round =>
    obtain ⟨x, y, rfl, rfl, hg, hx, hy, hD⟩ := hrel
    have HG := Lib.hid hg
    have HX := Lib.hid hx
    have HY := Lib.hid hy
    clear hg hx hy
    by_cases hz : y = 0
    · subst hz
      obtain ⟨g, hgg⟩ : ∃ g, gI a b = g := ⟨_, rfl⟩
      have hgp : 0 < g := by rw [← hgg]; exact gI_pos H0.out
      have hxg : (x.natAbs : Int) = g := by
        rw [← hgg]
        unfold gI
        rw [← HG.out, Int.gcd_zero_right]
      have hng : ¬ g < 0 := by omega
      have hgb : g ≤ 4000000000000000000 := by have := HX.out; omega
      have hab := HA.out
      have hbb := HB.out
      have ha1 : -4000000000000000000 ≤ a := by omega
      have ha2 : a ≤ 4000000000000000000 := by omega
      have hb1 : -4000000000000000000 ≤ b := by omega
      have hb2 : b ≤ 4000000000000000000 := by omega
      have hx : g = x ∨ -g = x := by omega
      clear hab hbb
      have HBl := Lib.hid (HW.out.trans (hD.below _))
      have hc0 : wr.cell? ⟨w.heap.size, 0, none⟩ = some (.int .i64 0) := by obtain ⟨m, rfl⟩ := hD; exact HCA.out
      have hc1 : wr.cell? ⟨w.heap.size, 1, none⟩ = some (.int .i64 0) := by obtain ⟨m, rfl⟩ := hD; exact HCB.out
      have hf0 : wr.frozen? ⟨w.heap.size, 0, none⟩ = false := by obtain ⟨m, rfl⟩ := hD; exact HFR.out 0
      have hf1 : wr.frozen? ⟨w.heap.size, 1, none⟩ = false := by obtain ⟨m, rfl⟩ := hD; exact HFR.out 1
      rcases Int.lt_or_lt_of_ne H0.out with hb | hb
      · obtain ⟨q1, q2⟩ := quo_neg' hgg hb HA.out HB.out
        have q3 : wrap64 (rN a b) = rN a b := IntWalk.wrap64_in _ (by have := rN_abs (a := a) H0.out; omega)
        obtain ⟨N, hN⟩ : ∃ N, rN a b = N := ⟨_, rfl⟩
        obtain ⟨D, hDn⟩ : ∃ D, rD a b = D := ⟨_, rfl⟩
        rw [hN] at q1 q3
        rw [hDn] at q2
        have HN := Lib.hid hN
        have HDn := Lib.hid hDn
        clear hN hDn
        obtain ⟨hs0, hs1⟩ := two_set hc0 hc1 (.int .i64 N) (.int .i64 D)
        clear hgg hxg
        rcases hx with rfl | rfl
        all_goals
          go_wp2
          go_region
          go_wp2
          refine bodyPost_ret (v := .agg #[.int .i64 N, .int .i64 D]) (by simp [results, Tryd.results72, go_sem, hs0, hs1]) rfl ?_
          exact ⟨by rw [HN.out, HDn.out], (HBl.out.drew.setCell (p := ⟨w.heap.size, 0, none⟩) (Nat.le_refl _) _).setCell (p := ⟨w.heap.size, 1, none⟩) (Nat.le_refl _) _⟩
      · obtain ⟨q1, q2⟩ := quo_pos' hgg hb
        have hnb : ¬ b < 0 := by omega
        have q3 : wrap64 (rN a b) = rN a b := IntWalk.wrap64_in _ (by have := rN_abs (a := a) H0.out; omega)
        obtain ⟨N, hN⟩ : ∃ N, rN a b = N := ⟨_, rfl⟩
        obtain ⟨D, hDn⟩ : ∃ D, rD a b = D := ⟨_, rfl⟩
        rw [hN] at q1 q3
        rw [hDn] at q2
        have HN := Lib.hid hN
        have HDn := Lib.hid hDn
        clear hN hDn
        obtain ⟨hs0, hs1⟩ := two_set hc0 hc1 (.int .i64 N) (.int .i64 D)
        clear hgg hxg
        rcases hx with rfl | rfl
        all_goals
          go_wp2
          go_region
          go_wp2
          refine bodyPost_ret (v := .agg #[.int .i64 N, .int .i64 D]) (by simp [results, Tryd.results72, go_sem, hs0, hs1]) rfl ?_
          exact ⟨by rw [HN.out, HDn.out], (HBl.out.drew.setCell (p := ⟨w.heap.size, 0, none⟩) (Nat.le_refl _) _).setCell (p := ⟨w.heap.size, 1, none⟩) (Nat.le_refl _) _⟩
    · go_wp2
      go_region
      go_wp2
      exact ⟨⟨y, _, rfl, rfl, (gcd_step x y).trans HG.out, HY.out, by have := tmod_lt x y hz; have := HY.out; omega, hD.drew⟩, by simpa [intOf] using tmod_lt x y hz⟩

/-- f times whole. -/
def wholeI : Int := 5354228880
set_option maxHeartbeats 1000000 in
set_option maxRecDepth 1000000 in
theorem counted_any (n d : Int) (hd : 1 ≤ d) (hd2 : d ≤ 24) (h1 : -100000 ≤ n) (h2 : n ≤ 100000) (w : World) :
    Lr 86 #[.agg #[.int .i64 n, .int .i64 d]] w (.int .i64 (cntF wholeI n d)) := by
  unfold Lr
  have HC : Hid (n * (5354228880 / d) = cntF wholeI n d) := Lib.hid rfl
  have hq1 : 0 ≤ 5354228880 / d := Int.ediv_nonneg (by omega) (by omega)
  have hq2 : 5354228880 / d ≤ 5354228880 := Int.ediv_le_self _ (by omega)
  have hw2 : wrap64 (n * (5354228880 / d)) = n * (5354228880 / d) := IntWalk.wrap64_in _ (by
    generalize 5354228880 / d = q at *
    have a1 : n * q ≤ 100000 * q := Int.mul_le_mul_of_nonneg_right h2 hq1
    have a2 : -100000 * q ≤ n * q := Int.mul_le_mul_of_nonneg_right h1 hq1
    omega)
  have HW := Lib.hid hw2
  clear hq1 hq2 hw2
  have hB := (Below.refl w.heap.size w).alloc (Nat.le_refl _) (.cells #[.int .i64 n, .int .i64 d] 48)
  have HB := Lib.hid hB
  clear hB
  go_enter Tryd.func86, Tryd.ntmps86
  go_wp2
  go_region
  go_wp2
  go_ret
  exact ⟨ret_int (by first | exact HC.out | (rw [← HC.out]; exact HW.out)), by first | exact HB.out.drew | exact HB.out⟩

set_option maxHeartbeats 1000000 in
set_option maxRecDepth 1000000 in
theorem gcd_any (a b : Int) (ha : 0 ≤ a) (hb : 0 ≤ b) (w : World) :
    Calls Tryd.prog 77 #[.int .i64 a, .int .i64 b] w fun e w' => e = .returned (.int .i64 (gI a b)) ∧ Dn w w' := by
  have HA := Lib.hid ha
  have HB := Lib.hid hb
  clear ha hb
  go_enter Tryd.func77, Tryd.ntmps77
  go_wp2
  go_loopw [0, 1] (fun d r wr => ∃ x y : Int, d = .int .i64 x ∧ r = .int .i64 y ∧ Int.gcd x y = Int.gcd a b ∧ 0 ≤ x ∧ 0 ≤ y ∧ Dn w wr) (fun _ r _ => (intOf r).natAbs)
  case atStart => exact ⟨a, b, rfl, rfl, rfl, HA.out, HB.out, Dn.refl _⟩
  case round =>
    obtain ⟨x, y, rfl, rfl, hg, hx, hy, hD⟩ := hrel
    have HG := Lib.hid hg
    have HD := Lib.hid hD
    clear hg hD
    by_cases hz : y = 0
    · subst hz
      have HX := Lib.hid hx
      clear hx
      go_wp2
      go_ret
      exact ⟨ret_int (by unfold gI; rw [← HG.out, Int.gcd_zero_right, Int.natAbs_of_nonneg HX.out]), HD.out⟩
    · have HS := Lib.hid (gcd_step x y)
      have HT := Lib.hid (tmod_lt x y hz)
      have e : x.tmod y = x % y := Int.tmod_eq_emod_of_nonneg hx
      rw [e] at HS HT
      have hm1 : 0 ≤ x % y := Int.emod_nonneg _ hz
      have HM := Lib.hid hm1
      have HY := Lib.hid hy
      have hyp : 0 < y := by omega
      clear e hm1
      go_wp2
      go_region
      go_wp2
      exact ⟨⟨y, _, rfl, rfl, HS.out.trans HG.out, HY.out, HM.out, HD.out.drew⟩, by simpa [intOf] using HT.out⟩

set_option maxHeartbeats 1000000 in
set_option maxRecDepth 1000000 in
theorem ofF_any (a b : Int) (hb0 : 0 < b) (ha : a.natAbs ≤ 4000000000000000000) (hb : b.natAbs ≤ 4000000000000000000) (w : World) :
    Lr 53 #[.int .i64 a, .int .i64 b] w (.agg #[.int .i64 (rN a b), .int .i64 (rD a b)]) := by
  unfold Lr
  have hne : b ≠ 0 := by omega
  have q := quo_pos' (a := a) (b := b) rfl hb0
  have hgp := gI_pos (a := a) hne
  have q3 : wrap64 (rN a b) = rN a b := IntWalk.wrap64_in _ (by have := rN_abs (a := a) hne; omega)
  have hnb : ¬ b < 0 := by omega
  have hca : (w.alloc (.cells #[.int .i64 0, .int .i64 0] 48)).cell? ⟨w.heap.size, 0, none⟩ = some (.int .i64 0) := by simp [World.cell?_alloc_at]
  have hcb : (w.alloc (.cells #[.int .i64 0, .int .i64 0] 48)).cell? ⟨w.heap.size, 1, none⟩ = some (.int .i64 0) := by simp [World.cell?_alloc_at]
  have hfr : ∀ o, (w.alloc (.cells #[.int .i64 0, .int .i64 0] 48)).frozen? ⟨w.heap.size, o, none⟩ = false := fun o => by simp [World.frozen?_alloc_at]
  have HW := Lib.hid ((Below.refl w.heap.size w).alloc (Nat.le_refl _) (.cells #[.int .i64 0, .int .i64 0] 48))
  have HCA := Lib.hid hca
  have HCB := Lib.hid hcb
  have HFR := Lib.hid hfr
  obtain ⟨N, hN⟩ : ∃ N, rN a b = N := ⟨_, rfl⟩
  obtain ⟨D, hDn⟩ : ∃ D, rD a b = D := ⟨_, rfl⟩
  have hgl : gI a b ≤ 4000000000000000000 := by
    unfold gI
    have h1 : (Int.gcd a b : Int) ∣ b := gI_dvd_right a b
    have := Int.le_of_dvd hb0 h1
    omega
  obtain ⟨g, hgg⟩ : ∃ g, gI a b = g := ⟨_, rfl⟩
  rw [hN, hDn, hgg] at q
  rw [hN] at q3
  rw [hgg] at hgp hgl
  obtain ⟨q1, q2⟩ := q
  have HN := Lib.hid hN
  have HDn := Lib.hid hDn
  have HGg := Lib.hid hgg
  clear hca hcb hfr hN hDn hgg
  by_cases hs : 0 ≤ a
  · have HQ1 : Hid (a / g = N) := Lib.hid (by rw [← q1, Int.tdiv_eq_ediv_of_nonneg hs])
    have hmax : -a ≤ a := by omega
    have HGc := Lib.hid (fun w => gcd_any a b hs (by omega) w)
    have ha2 : a ≤ 4000000000000000000 := by omega
    have hb2 : b ≤ 4000000000000000000 := by omega
    clear ha hb hne
    go_enter Tryd.func53, Tryd.ntmps53
    go_wp2_with fail
    refine (HGc.out _).mono ?_
    rintro e w1 ⟨rfl, hd⟩
    rw [HGg.out]
    generalize w.alloc (.cells #[.int .i64 0, .int .i64 0] 48) = W0 at *
    have hc0 : w1.cell? ⟨w.heap.size, 0, none⟩ = some (.int .i64 0) := by obtain ⟨m, rfl⟩ := hd; exact HCA.out
    have hc1 : w1.cell? ⟨w.heap.size, 1, none⟩ = some (.int .i64 0) := by obtain ⟨m, rfl⟩ := hd; exact HCB.out
    have hf0 : w1.frozen? ⟨w.heap.size, 0, none⟩ = false := by obtain ⟨m, rfl⟩ := hd; exact HFR.out 0
    have hf1 : w1.frozen? ⟨w.heap.size, 1, none⟩ = false := by obtain ⟨m, rfl⟩ := hd; exact HFR.out 1
    obtain ⟨hs0, hs1⟩ := two_set hc0 hc1 (.int .i64 N) (.int .i64 D)
    have HBl := Lib.hid (HW.out.trans (hd.below _))
    have hq1 := HQ1.out
    clear hd
    go_wp2
    go_region
    go_wp2
    refine bodyPost_ret (v := .agg #[.int .i64 N, .int .i64 D]) (by simp [results, Tryd.results53, go_sem, hs0, hs1]) rfl ?_
    exact ⟨by rw [HN.out, HDn.out], (HBl.out.drew.setCell (p := ⟨w.heap.size, 0, none⟩) (Nat.le_refl _) _).setCell (p := ⟨w.heap.size, 1, none⟩) (Nat.le_refl _) _⟩
  · have hmax : a < -a := by omega
    have HGc := Lib.hid (fun w => gcd_any (-a) b (by omega) (by omega) w)
    have HGn : Hid (gI (-a) b = gI a b) := Lib.hid (by unfold gI; simp [Int.gcd, Int.natAbs_neg])
    have ha2 : a < 0 := by omega
    have ha3 : -4000000000000000000 ≤ a := by omega
    have hb2 : b ≤ 4000000000000000000 := by omega
    clear ha hb hne hs
    go_enter Tryd.func53, Tryd.ntmps53
    go_wp2_with fail
    refine (HGc.out _).mono ?_
    rintro e w1 ⟨rfl, hd⟩
    rw [HGn.out, HGg.out]
    generalize w.alloc (.cells #[.int .i64 0, .int .i64 0] 48) = W0 at *
    have hc0 : w1.cell? ⟨w.heap.size, 0, none⟩ = some (.int .i64 0) := by obtain ⟨m, rfl⟩ := hd; exact HCA.out
    have hc1 : w1.cell? ⟨w.heap.size, 1, none⟩ = some (.int .i64 0) := by obtain ⟨m, rfl⟩ := hd; exact HCB.out
    have hf0 : w1.frozen? ⟨w.heap.size, 0, none⟩ = false := by obtain ⟨m, rfl⟩ := hd; exact HFR.out 0
    have hf1 : w1.frozen? ⟨w.heap.size, 1, none⟩ = false := by obtain ⟨m, rfl⟩ := hd; exact HFR.out 1
    obtain ⟨hs0, hs1⟩ := two_set hc0 hc1 (.int .i64 N) (.int .i64 D)
    have HBl := Lib.hid (HW.out.trans (hd.below _))
    clear hd
    go_wp2
    go_region
    go_wp2
    refine bodyPost_ret (v := .agg #[.int .i64 N, .int .i64 D]) (by simp [results, Tryd.results53, go_sem, hs0, hs1]) rfl ?_
    exact ⟨by rw [HN.out, HDn.out], (HBl.out.drew.setCell (p := ⟨w.heap.size, 0, none⟩) (Nat.le_refl _) _).setCell (p := ⟨w.heap.size, 1, none⟩) (Nat.le_refl _) _⟩
end Go.Proofs.YtoeimngbpagegaaDoor
