/- The law VotePaths, walked. -/
import Derived.Test.YtnobbklnnkpdfaaPg
import Derived.Test.YtnobbklnnkpdfaaRv
import Derived.Test.YtnobbklnnkpdfaaVg
import Derived.Test.YtnobbklnnkpdfaaAk
namespace Go.Proofs.Ytnobbklnnkpdfaa
open Go.RowKit

set_option maxHeartbeats 4000000 in
set_option maxRecDepth 1000000 in
theorem votePaths_bad (A : Option Addr) (n c : Nat) (L : Nat → Nat) (v : Nat → Nat → Int) (qa qb : Int) (w : World) (h : ArgR w A n c L v) (hok : okBal n L v = false) :
    Calls Try.prog 5 #[.slice A n c, .int .i64 qa, .int .i64 qb] w fun e w' => e = .returned (.bool true) ∧ Below w.heap.size w w' := by
  have H := Lib.hid h
  have HK := Lib.hid hok
  clear h hok
  go_enter Try.func5, Try.ntmps5
  go_wp2_with fail
  refine (FewF A n c L v _ H.out).mono ?_
  rintro e w1 ⟨A1, k1, c1, rfl, hk1, hr1, hc1, hb1⟩
  have HK1 := Lib.hid hk1
  have HR1 := Lib.hid hr1
  have HC1 := Lib.hid hc1
  have HB1 := Lib.hid hb1
  have Hb1 := Lib.hid (hb1)
  clear hk1 hr1 hc1 hb1
  go_wp2_with fail
  refine Lr.use (MarginsFbad HR1.out HK1.out HK.out) ?_
  intro w2 hb2
  have Hb2 := Lib.hid (Hb1.out.trans (hb2.mono Hb1.out.size))
  clear hb2
  go_wp2_with fail
  refine (FewF A n c L v _ (H.out.below Hb2.out)).mono ?_
  rintro e w3 ⟨A3, k3, c3, rfl, hk3, hr3, hc3, hb3⟩
  have HK3 := Lib.hid hk3
  have HR3 := Lib.hid hr3
  have HC3 := Lib.hid hc3
  have HB3 := Lib.hid hb3
  have Hb3 := Lib.hid (Hb2.out.trans (hb3.mono Hb2.out.size))
  clear hk3 hr3 hc3 hb3
  go_wp2_with fail
  refine Lr.use (WidthsFbad HR3.out HK3.out HK.out) ?_
  intro w4 hb4
  have Hb4 := Lib.hid (Hb3.out.trans (hb4.mono Hb3.out.size))
  clear hb4
  go_wp2_with fail
  refine (FewF A n c L v _ (H.out.below Hb4.out)).mono ?_
  rintro e w5 ⟨A5, k5, c5, rfl, hk5, hr5, hc5, hb5⟩
  have HK5 := Lib.hid hk5
  have HR5 := Lib.hid hr5
  have HC5 := Lib.hid hc5
  have HB5 := Lib.hid hb5
  have Hb5 := Lib.hid (Hb4.out.trans (hb5.mono Hb4.out.size))
  clear hk5 hr5 hc5 hb5
  go_wp2_with fail
  refine Lr.use (PathFbad HR5.out HK5.out HC5.out (.inl HK.out)) ?_
  intro w6 hb6
  have Hb6 := Lib.hid (Hb5.out.trans (hb6.mono Hb5.out.size))
  clear hb6
  go_wp2_with fail
  refine Lr.use (awake_any _) ?_
  intro w9 hb9
  have Hb9 := Lib.hid (Hb6.out.trans (hb9.mono Hb6.out.size))
  clear hb9
  go_wp2
  go_ret
  exact ⟨rfl, Hb9.out⟩

set_option maxHeartbeats 4000000 in
set_option maxRecDepth 1000000 in
theorem votePaths_arg (A : Option Addr) (n c : Nat) (L : Nat → Nat) (v : Nat → Nat → Int) (qa qb : Int) (w : World) (h : ArgR w A n c L v) (hok : okBal n L v = true) (hq : qa < 0 ∨ (L 0 : Int) ≤ qa ∨ qb < 0 ∨ (L 0 : Int) ≤ qb ∨ qa = qb) :
    Calls Try.prog 5 #[.slice A n c, .int .i64 qa, .int .i64 qb] w fun e w' => e = .returned (.bool true) ∧ Below w.heap.size w w' := by
  have H := Lib.hid h
  have HK := Lib.hid hok
  have HQ := Lib.hid hq
  clear h hok hq
  go_enter Try.func5, Try.ntmps5
  go_wp2_with fail
  refine (FewF A n c L v _ H.out).mono ?_
  rintro e w1 ⟨A1, k1, c1, rfl, hk1, hr1, hc1, hb1⟩
  have HK1 := Lib.hid hk1
  have HR1 := Lib.hid hr1
  have HC1 := Lib.hid hc1
  have HB1 := Lib.hid hb1
  have Hb1 := Lib.hid (hb1)
  clear hk1 hr1 hc1 hb1
  go_wp2_with fail
  refine (MarginsF HR1.out HK1.out HC1.out HK.out).mono ?_
  rintro e w2 ⟨A2, c2, rfl, hr2, hb2⟩
  have HMX2 := Lib.hid hr2
  have Hb2 := Lib.hid (Hb1.out.trans (hb2.mono Hb1.out.size))
  clear hb2 hr2
  go_wp2_with fail
  refine (FewF A n c L v _ (H.out.below Hb2.out)).mono ?_
  rintro e w3 ⟨A3, k3, c3, rfl, hk3, hr3, hc3, hb3⟩
  have HK3 := Lib.hid hk3
  have HR3 := Lib.hid hr3
  have HC3 := Lib.hid hc3
  have HB3 := Lib.hid hb3
  have Hb3 := Lib.hid (Hb2.out.trans (hb3.mono Hb2.out.size))
  clear hk3 hr3 hc3 hb3
  have HMX3 := Lib.hid (HMX2.out.keep HB3.out)
  go_wp2_with fail
  refine (WidthsF HR3.out HK3.out HC3.out HK.out).mono ?_
  rintro e w4 ⟨A4, c4, rfl, hr4, hb4⟩
  have HMX4 := Lib.hid (HMX3.out.keep hb4)
  have HWX4 := Lib.hid hr4
  have Hb4 := Lib.hid (Hb3.out.trans (hb4.mono Hb3.out.size))
  clear hb4 hr4
  go_wp2_with fail
  refine (FewF A n c L v _ (H.out.below Hb4.out)).mono ?_
  rintro e w5 ⟨A5, k5, c5, rfl, hk5, hr5, hc5, hb5⟩
  have HK5 := Lib.hid hk5
  have HR5 := Lib.hid hr5
  have HC5 := Lib.hid hc5
  have HB5 := Lib.hid hb5
  have Hb5 := Lib.hid (Hb4.out.trans (hb5.mono Hb4.out.size))
  clear hk5 hr5 hc5 hb5
  have HMX5 := Lib.hid (HMX4.out.keep HB5.out)
  have HWX5 := Lib.hid (HWX4.out.keep HB5.out)
  clear HMX2 HMX3 HMX4 HWX4 HB1 HB3 HB5 HR1 HR3 HK1 HK3 HC1 HC3
  go_wp2_with fail
  refine Lr.use (PathFbad HR5.out HK5.out HC5.out (.inr HQ.out)) ?_
  intro w6 hb6
  have Hb6 := Lib.hid (Hb5.out.trans (hb6.mono Hb5.out.size))
  clear hb6
  go_wp2_with fail
  refine Lr.use (awake_any _) ?_
  intro w9 hb9
  have Hb9 := Lib.hid (Hb6.out.trans (hb9.mono Hb6.out.size))
  clear hb9
  go_wp2
  go_ret
  exact ⟨rfl, Hb9.out⟩

set_option maxHeartbeats 4000000 in
set_option maxRecDepth 1000000 in
theorem votePaths_ok (a b : Nat) (A : Option Addr) (n c : Nat) (L : Nat → Nat) (v : Nat → Nat → Int) (w : World) (h : ArgR w A n c L v) (hok : okBal n L v = true) (ha : a < L 0) (hb : b < L 0) (hab : a ≠ b) :
    Calls Try.prog 5 #[.slice A n c, .int .i64 (a : Int), .int .i64 (b : Int)] w fun e w' => e = .returned (.bool true) ∧ Below w.heap.size w w' := by
  have H := Lib.hid h
  have HK := Lib.hid hok
  obtain ⟨⟨hB1, hB9⟩, ⟨hB2, hB3⟩, hB4⟩ := okBal_iff.1 hok
  have HO := Lib.hid hB4
  have HTd : Hid (∀ x, x < L 0 → mAll v (L 0) n (5 * x + x) = 0) := Lib.hid (mAll_dia hok)
  have HTb : Hid (∀ x y, x < L 0 → y < L 0 → mrg v (L 0) x y n = mAll v (L 0) n (5 * x + y) ∧ -9 ≤ mAll v (L 0) n (5 * x + y) ∧ mAll v (L 0) n (5 * x + y) ≤ 9) := Lib.hid (fun x y hx hy => by
    rw [mAll_at hB3 hx hy n (fun i hi => (hB4 i hi).2)]
    have := mrg_bd v (L 0) x y n
    exact ⟨rfl, by omega, by omega⟩)
  clear h hok hB4
  go_enter Try.func5, Try.ntmps5
  go_wp2_with fail
  refine (FewF A n c L v _ H.out).mono ?_
  rintro e w1 ⟨A1, k1, c1, rfl, hk1, hr1, hc1, hb1⟩
  have HK1 := Lib.hid hk1
  have HR1 := Lib.hid hr1
  have HC1 := Lib.hid hc1
  have HB1 := Lib.hid hb1
  have Hb1 := Lib.hid (hb1)
  clear hk1 hr1 hc1 hb1
  go_wp2_with fail
  refine (MarginsF HR1.out HK1.out HC1.out HK.out).mono ?_
  rintro e w2 ⟨A2, c2, rfl, hr2, hb2⟩
  have HMX2 := Lib.hid hr2
  have Hb2 := Lib.hid (Hb1.out.trans (hb2.mono Hb1.out.size))
  clear hb2 hr2
  go_wp2_with fail
  refine (FewF A n c L v _ (H.out.below Hb2.out)).mono ?_
  rintro e w3 ⟨A3, k3, c3, rfl, hk3, hr3, hc3, hb3⟩
  have HK3 := Lib.hid hk3
  have HR3 := Lib.hid hr3
  have HC3 := Lib.hid hc3
  have HB3 := Lib.hid hb3
  have Hb3 := Lib.hid (Hb2.out.trans (hb3.mono Hb2.out.size))
  clear hk3 hr3 hc3 hb3
  have HMX3 := Lib.hid (HMX2.out.keep HB3.out)
  go_wp2_with fail
  refine (WidthsF HR3.out HK3.out HC3.out HK.out).mono ?_
  rintro e w4 ⟨A4, c4, rfl, hr4, hb4⟩
  have HMX4 := Lib.hid (HMX3.out.keep hb4)
  have HWX4 := Lib.hid hr4
  have Hb4 := Lib.hid (Hb3.out.trans (hb4.mono Hb3.out.size))
  clear hb4 hr4
  go_wp2_with fail
  refine (FewF A n c L v _ (H.out.below Hb4.out)).mono ?_
  rintro e w5 ⟨A5, k5, c5, rfl, hk5, hr5, hc5, hb5⟩
  have HK5 := Lib.hid hk5
  have HR5 := Lib.hid hr5
  have HC5 := Lib.hid hc5
  have HB5 := Lib.hid hb5
  have Hb5 := Lib.hid (Hb4.out.trans (hb5.mono Hb4.out.size))
  clear hk5 hr5 hc5 hb5
  have HMX5 := Lib.hid (HMX4.out.keep HB5.out)
  have HWX5 := Lib.hid (HWX4.out.keep HB5.out)
  clear HMX2 HMX3 HMX4 HWX4 HB1 HB3 HB5 HR1 HR3 HK1 HK3 HC1 HC3
  go_wp2_with fail
  refine (PathF HR5.out HK5.out HC5.out HK.out ha hb hab).mono ?_
  rintro e w6 ⟨s, p, x, q, g, cap, hs2, -, hx, -, hgood, rfl, hrc, hb6⟩
  obtain ⟨N, hN⟩ : ∃ N, N = s + 2 := ⟨_, rfl⟩
  rw [← hN] at hrc ⊢
  have HMX6 := Lib.hid (HMX5.out.keep hb6)
  have HWX6 := Lib.hid (HWX5.out.keep hb6)
  have Hb6 := Lib.hid (Hb5.out.trans (hb6.mono Hb5.out.size))
  have HRc := Lib.hid hrc
  have hxm : x.length = s ∧ (∀ y ∈ x, y < L 0 ∧ y ≠ a ∧ y ≠ b) ∧ x.Nodup := by
    have hm : x ∈ ordL (othL (L 0) a b) s [] := by rw [hx]; simp
    obtain ⟨suf, e1, e2, e3, e4⟩ := (mem_ordL _ _ _ _).1 hm
    have e1' : x = suf := e1
    subst e1'
    refine ⟨e2, fun y hy => ?_, e4⟩
    have := (e3 y hy).1
    unfold othL at this
    simp only [List.mem_filter, List.mem_range, Bool.not_eq_true', beq_eq_false_iff_ne] at this
    exact ⟨this.1.1, this.1.2, this.2⟩
  obtain ⟨P, hP⟩ : ∃ P, P = pthL a b x := ⟨_, rfl⟩
  have hPl : P.length = N := by rw [hP, hN]; simp [pthL, hxm.1]
  have HPlt : Hid (∀ k, k < N → P.getD k 0 < L 0) := Lib.hid (fun k hk => by
    have e : P.getD k 0 = P[k] := by simp [List.getD, show k < P.length by omega]
    have hm : P[k] ∈ pthL a b x := by rw [← hP]; exact List.getElem_mem _
    rw [e]
    rcases List.mem_cons.1 hm with e | hm
    · rw [e]; exact ha
    · rcases List.mem_append.1 hm with hm | hm
      · exact (hxm.2.1 _ hm).1
      · rw [List.mem_singleton] at hm; rw [hm]; exact hb)
  have hnd : P.Nodup := by
    rw [hP]
    unfold pthL
    refine List.nodup_cons.2 ⟨fun hm => ?_, List.nodup_append.2 ⟨hxm.2.2, by simp, fun y hy z hz e => ?_⟩⟩
    · rcases List.mem_append.1 hm with hm | hm
      · exact (hxm.2.1 _ hm).2.1 rfl
      · rw [List.mem_singleton] at hm; exact hab hm
    · rw [List.mem_singleton] at hz; exact (hxm.2.1 _ hy).2.2 (by rw [e, hz])
  have HPn : Hid (∀ i j, i < j → j < N → P.getD i 0 ≠ P.getD j 0) := Lib.hid (fun i j hij hj e => by
    have ei : P.getD i 0 = P[i] := by simp [List.getD, show i < P.length by omega]
    have ej : P.getD j 0 = P[j] := by simp [List.getD, show j < P.length by omega]
    rw [ei, ej] at e
    exact (List.pairwise_iff_getElem.1 hnd) i j (by omega) (by omega) hij e)
  have HP0 : Hid (P.getD 0 0 = a) := Lib.hid (by rw [hP]; rfl)
  have HP1 : Hid (P.getD (N - 1) 0 = b) := Lib.hid (by
    rw [hP, show N - 1 = s + 1 by omega, ← hxm.1]
    simp [pthL, List.getD])
  have hst : stL (mAll v (L 0) n) P = wT (L 0) (mAll v (L 0) n) (L 0) (5 * a + b) := by
    rw [hP]
    exact of_decide_eq_true hgood
  have HSt := Lib.hid hst
  have hge := wT_ge hB3 HTd.out (L 0) (Nat.le_refl _) a b ha hb
  have HRp : Hid (RowC w6 g cap N (rowF P)) := Lib.hid (by rw [hP]; exact hrc)
  clear hb6 hx hgood hrc HRc hxm hP hnd hst HMX5 HWX5 HR5 HK5 HC5
  have h2N : 2 ≤ N := by omega
  have hNc : N ≤ L 0 := by omega
  have HPe : Hid (P.take N = P) := Lib.hid (by rw [← hPl, List.take_length])
  obtain ⟨N1, hN1⟩ : ∃ N1, N1 = N - 1 := ⟨_, rfl⟩
  have hwr : IntKind.i64.wrap ((N : Int) - 1) = (N1 : Int) := by
    rw [IntKind.wrap_i64]
    omega
  have hN1N : N1 < N := by omega
  have hN1I : (N1 : Int) < (N : Int) := by omega
  have hN0 : 0 < N := by omega
  have hN0I : (0 : Int) < (N : Int) := by omega
  have cp0 : w6.cell? ⟨g, 0, none⟩ = some (.int .i64 (a : Int)) := by
    rw [HRp.out.cell hN0]
    show some (Value.int .i64 ((P.getD 0 0 : Nat) : Int)) = _
    rw [HP0.out]
  have cp1 : w6.cell? ⟨g, N1, none⟩ = some (.int .i64 (b : Int)) := by
    rw [HRp.out.cell hN1N]
    show some (Value.int .i64 ((P.getD N1 0 : Nat) : Int)) = _
    rw [hN1, HP1.out]
  obtain ⟨xb, xo, X1, x1, eX, hX1, hX2⟩ := HMX6.out.at ha
  obtain ⟨yb, yo, Y1, y1, eY, hY1, hY2⟩ := HWX6.out.at ha
  subst eX eY
  obtain ⟨p1, p2, rfl, hp1⟩ := hX2.at hb
  obtain ⟨q1, q2, rfl, hq1⟩ := hY2.at hb
  rw [(HTb.out a b ha hb).1] at hp1
  have hPl' := hPl
  clear hX2 hY2 hN1 hN hPl hs2
  obtain ⟨T, hT⟩ : ∃ T, T = mAll v (L 0) n := ⟨_, rfl⟩
  rw [← hT] at hp1 hq1 hge HSt HTb
  obtain ⟨wd, hwd⟩ : ∃ wd, wd = wT (L 0) T (L 0) (5 * a + b) := ⟨_, rfl⟩
  rw [← hwd] at hq1 hge HSt
  have HWd := Lib.hid hwd
  have HTm := Lib.hid hT
  obtain ⟨tab, htab⟩ : ∃ tab, tab = T (5 * a + b) := ⟨_, rfl⟩
  rw [← htab] at hp1 hge
  clear hwd hT htab
  have d1 : decide ((N : Int) < 2) = false := decide_eq_false (by omega)
  have d2 : decide (((L 0 : Nat) : Int) < (N : Int)) = false := decide_eq_false (by omega)
  have d2' : decide (L 0 < N) = false := decide_eq_false (by omega)
  have d3 : decide ((a : Int) < 0) = false := decide_eq_false (by omega)
  have d4 : decide ((b : Int) < 0) = false := decide_eq_false (by omega)
  have d5 : decide (((L 0 : Nat) : Int) ≤ (a : Int)) = false := decide_eq_false (by omega)
  have d5' : decide (L 0 ≤ a) = false := decide_eq_false (by omega)
  have d6 : decide (((L 0 : Nat) : Int) ≤ (b : Int)) = false := decide_eq_false (by omega)
  have d6' : decide (L 0 ≤ b) = false := decide_eq_false (by omega)
  have d7 := bne_f (rfl : (a : Int) = (a : Int))
  have d8 := bne_f (rfl : (b : Int) = (b : Int))
  have d9 : decide (wd < tab) = false := decide_eq_false (by omega)
  go_wp2
  go_quiet (fail)
  clear cp0 cp1 hX1 hp1 hY1 hq1 hwr d1 d2 d2' d3 d4 d5 d5' d6 d6' d7 d8 d9
  go_wp2_with fail
  have HL99 : Hid (∀ k, k ≤ N → -99 ≤ stL T (P.take k) ∧ stL T (P.take k) ≤ 99) := Lib.hid (by
    intro k
    induction k with
    | zero => intro _; show (-99 : Int) ≤ 99 ∧ (99 : Int) ≤ 99; omega
    | succ k ih =>
      intro hk
      rcases Nat.eq_zero_or_pos k with h0 | h0
      · rw [h0, stL_take1]; omega
      · rw [stL_take T P h0 (by omega)]
        have := ih (by omega)
        have := HTb.out _ _ (HPlt.out (k - 1) (by omega)) (HPlt.out k (by omega))
        omega)
  have HStp : Hid (∀ k, 1 ≤ k → k < N → stL T (P.take (k + 1)) = min (stL T (P.take k)) (T (5 * P.getD (k - 1) 0 + P.getD k 0))) := Lib.hid (fun k h1 h2 => stL_take T P h1 (by omega))
  have HSt1 : Hid (stL T (P.take 1) = 99) := Lib.hid (stL_take1 T P)
  clear hPl'
  go_loopw [14, 117] (fun m i wr => ∃ k : Nat, k ≤ N ∧ i = .int .i64 k ∧ m = .int .i64 (stL T (P.take k)) ∧ Dn w6 wr) (fun _ i _ => N - (intOf i).toNat)
  case atStart => exact ⟨0, Nat.zero_le _, rfl, rfl, (Dn.refl _).drewN _⟩
  case round =>
    obtain ⟨k, hk, rfl, rfl, hD⟩ := hrel
    have HD := Lib.hid hD
    clear hD
    by_cases hlt : k < N
    · have hck : wr.cell? ⟨g, k, none⟩ = some (.int .i64 ((P.getD k 0 : Nat) : Int)) := (HRp.out.dn HD.out).cell hlt
      have hx1 := HPlt.out k hlt
      have hsb := HL99.out k hk
      have HCt := Lib.hid (contains_any (some ⟨g, 0, none⟩) k cap (rowF P) ((P.getD k 0 : Nat) : Int) wr (fun hp => ⟨g, 0, rfl, fun j hj => by rw [Nat.zero_add]; exact (HRp.out.dn HD.out).cell (by omega)⟩) (by omega))
      have hcf : hasB (rowF P) ((P.getD k 0 : Nat) : Int) k = false := by
        unfold hasB
        rw [idxI_none (fun j hj e => HPn.out j k hj hlt (by unfold rowF at e; exact Int.natCast_inj.1 e))]
        rfl
      rw [hcf] at HCt
      have hcapk : k ≤ cap := by have := HRp.out; obtain ⟨F, -, hh, -⟩ := this; omega
      clear hcf
      by_cases h0 : k = 0
      · subst h0
        generalize P.getD 0 0 = xk at *
        have d1 : decide ((xk : Int) < 0) = false := decide_eq_false (by omega)
        have d2 : decide (((L 0 : Nat) : Int) ≤ (xk : Int)) = false := decide_eq_false (by omega)
        have d2' : decide (L 0 ≤ xk) = false := decide_eq_false (by omega)
        go_wp2_with fail
        refine HCt.out.mono ?_
        rintro e w8 ⟨rfl, rfl⟩
        clear HCt
        go_wp2
        go_roundw
        case rel => exact ⟨1, by omega, by go_num, by rw [HSt1.out]; rfl, HD.out⟩
        case measure => simp [intOf]; omega
      · obtain ⟨k1, hk1⟩ : ∃ k1, k1 = k - 1 := ⟨_, rfl⟩
        have hxk1 := HPlt.out k1 (by omega)
        have hck1 : wr.cell? ⟨g, k1, none⟩ = some (.int .i64 ((P.getD k1 0 : Nat) : Int)) := (HRp.out.dn HD.out).cell (show k1 < N by omega)
        have hck2 : wr.cell? ⟨g, k - 1, none⟩ = some (.int .i64 ((P.getD k1 0 : Nat) : Int)) := by rw [← hk1]; exact hck1
        have hT1 := HTb.out _ _ hxk1 hx1
        have HSk := Lib.hid (HStp.out k (by omega) hlt)
        rw [← hk1] at HSk
        obtain ⟨xb', xo', X1', x1', eX, hX1, hX2⟩ := (HMX6.out.dn HD.out).at hxk1
        injection eX with eX
        injection eX with eX1 eX2 eX3
        subst eX1 eX2
        clear eX3
        obtain ⟨p1', p2', rfl, hp1⟩ := hX2.at hx1
        rw [hT1.1] at hp1
        obtain ⟨-, hT1, hT2⟩ := hT1
        clear hX2 hk1
        generalize T (5 * P.getD k1 0 + P.getD k 0) = t at *
        generalize P.getD k1 0 = y1 at *
        generalize P.getD k 0 = xk at *
        generalize stL T (P.take k) = m at *
        have d1 : decide ((xk : Int) < 0) = false := decide_eq_false (by omega)
        have d2 : decide (((L 0 : Nat) : Int) ≤ (xk : Int)) = false := decide_eq_false (by omega)
        have d2' : decide (L 0 ≤ xk) = false := decide_eq_false (by omega)
        have hkp : 0 < k := by omega
        obtain ⟨hsb1, hsb2⟩ := hsb
        rcases Int.lt_or_le t m with hl | hl
        · have HN : Hid (stL T (P.take (k + 1)) = t) := Lib.hid (by rw [HSk.out]; omega)
          go_wp2_with fail
          refine HCt.out.mono ?_
          rintro e w8 ⟨rfl, rfl⟩
          clear HCt
          go_wp2
          go_roundw
          case rel => exact ⟨k + 1, by omega, by go_num, by rw [HN.out], HD.out⟩
          case measure => simp [intOf]; omega
        · have HN : Hid (stL T (P.take (k + 1)) = m) := Lib.hid (by rw [HSk.out]; omega)
          go_wp2_with fail
          refine HCt.out.mono ?_
          rintro e w8 ⟨rfl, rfl⟩
          clear HCt
          go_wp2
          go_roundw
          case rel => exact ⟨k + 1, by omega, by go_num, by rw [HN.out], HD.out⟩
          case measure => simp [intOf]; omega
    · have e : k = N := by omega
      rw [e, HPe.out, HSt.out]
      have Hbr := Lib.hid (Hb6.out.trans (HD.out.below _))
      have ha9 : a < L 0 := ha
      obtain ⟨yb', yo', Y1', y1', eY, hY1, hY2⟩ := (HWX6.out.dn HD.out).at ha
      injection eY with eY
      injection eY with eY1 eY2 eY3
      subst eY1 eY2
      clear eY3
      obtain ⟨q1', q2', rfl, hq1⟩ := hY2.at hb
      rw [HTm.out.symm, ← HWd.out] at hq1
      clear e hlt hk hY2
      have hww := beq_t (rfl : wd = wd)
      go_wp2_with fail
      refine Lr.use (awake_any _) ?_
      intro w9 hb9
      have Hb9 := Lib.hid (Hbr.out.trans (hb9.mono Hbr.out.size))
      clear hb9
      go_wp2
      go_ret
      exact ⟨rfl, Hb9.out⟩
theorem votePaths_walk (A : Option Addr) (n c : Nat) (L : Nat → Nat) (v : Nat → Nat → Int) (qa qb : Int) (w : World) (h : ArgR w A n c L v) (_ha : (Lit.int .i64 qa).wf = true) (_hb : (Lit.int .i64 qb).wf = true) :
    Calls Try.prog 5 #[.slice A n c, .int .i64 qa, .int .i64 qb] w fun e w' => e = .returned (.bool true) ∧ Below w.heap.size w w' := by
  cases hok : okBal n L v with
  | false => exact votePaths_bad A n c L v qa qb w h hok
  | true =>
    by_cases hq : qa < 0 ∨ (L 0 : Int) ≤ qa ∨ qb < 0 ∨ (L 0 : Int) ≤ qb ∨ qa = qb
    · exact votePaths_arg A n c L v qa qb w h hok hq
    · obtain ⟨a, rfl⟩ : ∃ a : Nat, qa = (a : Int) := ⟨qa.toNat, by omega⟩
      obtain ⟨b, rfl⟩ : ∃ b : Nat, qb = (b : Int) := ⟨qb.toNat, by omega⟩
      exact votePaths_ok a b A n c L v w h hok (by omega) (by omega) (by omega)
end Go.Proofs.Ytnobbklnnkpdfaa
