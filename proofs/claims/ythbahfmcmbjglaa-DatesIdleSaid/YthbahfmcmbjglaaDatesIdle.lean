import Derived.Test.YthbahfmcmbjglaaQv
import Derived.Test.YthbahfmcmbjglaaQo
namespace Go.Proofs.Ythbahfmcmbjglaa
open Go.RowKit

/-- Pieces in order, in which nothing waits, and that are as long as the jobs. -/
structure GoodP (n : Nat) (J : Nat → Nat → Int) (m : Nat) (p : Nat → Nat → Int) : Prop where
  rng : ∀ a, a < m → 0 ≤ p a 0 ∧ p a 0 < n ∧ pvF p a 2 ≤ p a 1 ∧ p a 1 < p a 2 ∧ p a 2 ≤ 260
  gap : ∀ a, a < m → pvF p a 2 < p a 1 → ∀ j, j < n → dnF p a j = J j 0 ∨ p a 1 ≤ J j 1
  done : ∀ j, j < n → dnF p m j = J j 0
theorem goodP_of (ru : Nat) {n : Nat} {J : Nat → Nat → Int} (h : okJ n J = true) : GoodP n J (plS ru n J).m (plS ru n J).p := by
  have h1 := stF_gap (ru := ru) h 260
  have h2 := stF_inv (ru := ru) h 260
  refine ⟨fun a ha => ?_, h1.gap, fun j hj => ?_⟩
  · have h3 := h2.rng a ha
    exact ⟨h3.1, h3.2.1, h1.ord a ha, h3.2.2.2.1, h3.2.2.2.2⟩
  · have h3 := h1.done j hj
    have h4 := plS_left (ru := ru) h j hj
    unfold plS at h4
    rw [h4] at h3
    rw [Int.sub_zero] at h3
    exact h3
theorem GoodP.bd {n m : Nat} {J p : Nat → Nat → Int} (h : GoodP n J m p) : ∀ a, a ≤ m → (0 ≤ pvF p a 2 ∧ pvF p a 2 ≤ 260) ∧ ∀ j, 0 ≤ dnF p a j ∧ dnF p a j ≤ pvF p a 2 := by
  intro a
  induction a with
  | zero => intro _; exact ⟨by simp [pvF], fun j => by simp [dnF, pvF]⟩
  | succ a ih =>
    intro ha
    have h1 := ih (by omega)
    have h2 := h.rng a (by omega)
    have hp : pvF p (a + 1) = p a := rfl
    rw [hp]
    refine ⟨by omega, fun j => ?_⟩
    have h3 := h1.2 j
    rw [dnF]
    unfold upd
    by_cases e : j = (p a 0).toNat
    · rw [if_pos e, ← e]
      omega
    · rw [if_neg e]
      omega

set_option maxHeartbeats 4000000 in
set_option maxRecDepth 1000000 in
theorem datesIdle_walk (A : Option Addr) (n c : Nat) (J : Nat → Nat → Int) (W : World) (h : ArgK 4 W A n c J) : TrueBelow 7 #[.slice A n c] W := by
  have hnm : n ≤ maxLen := Nat.le_trans h.1 h.2.1
  have H := Lib.hid h.2.2.2
  have Hn := Lib.hid hnm
  clear h hnm
  show Calls _ _ _ _ _
  go_enter Try.func7, Try.ntmps7
  go_wp2_with fail
  refine (of_any A n c J W H.out Hn.out).mono ?_
  rintro e w1 ⟨x, rfl, hx, hb1⟩
  obtain ⟨Ax, cx, rfl, -, hRx, -, hcx, hcm⟩ := hx.form
  have HX := Lib.hid hRx
  have HB1 := Lib.hid hb1
  have Hm10 := Lib.hid (show min n 10 ≤ maxLen by omega)
  have HMin := Lib.hid (okJ_min n J)
  clear hx hRx hb1 hcx hcm
  cases hok : okJ n J with
  | false =>
    have HOk := Lib.hid hok
    have HBad := Lib.hid (show okJ (min n 10) J = false by rw [HMin.out, HOk.out])
    clear hok
    go_wp2_with fail
    refine (plan_bad Ax (min n 10) cx J w1 HX.out Hm10.out HBad.out).use fun w2 hb2 => ?_
    have HB2 := Lib.hid (HB1.out.trans (hb2.mono HB1.out.size))
    clear hb2
    go_wp2_with fail
    refine (of_any A n c J w2 (H.out.keep HB2.out) Hn.out).mono ?_
    rintro e w3 ⟨x, rfl, hx, hb3⟩
    obtain ⟨Ay, cy, rfl, -, hRx, -, hcx, hcm⟩ := hx.form
    have HY := Lib.hid hRx
    have HB3 := Lib.hid (HB2.out.trans (hb3.mono HB2.out.size))
    clear hx hRx hb3 hcx hcm
    go_wp2_with fail
    refine (short_bad Ay (min n 10) cy J w3 HY.out Hm10.out HBad.out).use fun w4 hb4 => ?_
    have HB4 := Lib.hid (HB3.out.trans (hb4.mono HB3.out.size))
    clear hb4
    go_wp2_with fail
    refine (awake_any w4).use fun w8 hb8 => ?_
    have HB8 := Lib.hid (HB4.out.trans (hb8.mono HB4.out.size))
    clear hb8
    go_wp2
    go_ret
    exact ⟨rfl, HB8.out⟩
  | true =>
    have HOk := Lib.hid hok
    have hn8 := (okJ_iff.1 hok).1
    have hmn : min n 10 = n := by omega
    rw [hmn] at HX ⊢
    have HMn := Lib.hid hmn
    have hn8' := hn8.2
    clear hok hmn Hm10 hn8
    go_wp2_with fail
    refine (plan_ok Ax n cx J w1 HX.out HOk.out).mono ?_
    rintro e w2 ⟨v, rfl, hv, hb2⟩
    have HB2 := Lib.hid (HB1.out.trans (hb2.mono HB1.out.size))
    obtain ⟨Av, cv, rfl, -, hRv, -⟩ := hv.form
    have HV := Lib.hid hRv
    clear hv hRv hb2
    go_wp2_with fail
    refine (of_any A n c J w2 (H.out.keep HB2.out) Hn.out).mono ?_
    rintro e w3 ⟨x, rfl, hx, hb3⟩
    rw [HMn.out] at hx
    obtain ⟨Ay, cy, rfl, -, hRx, -, hcx, hcm⟩ := hx.form
    have HY := Lib.hid hRx
    have HB3 := Lib.hid (HB2.out.trans (hb3.mono HB2.out.size))
    have HV3 := Lib.hid (HV.out.keep hb3)
    clear hx hRx hb3 hcx hcm
    go_wp2_with fail
    refine (short_ok Ay n cy J w3 HY.out HOk.out).mono ?_
    rintro e w4 ⟨u, rfl, hu, hb4⟩
    have HB4 := Lib.hid (HB3.out.trans (hb4.mono HB3.out.size))
    have HV4 := Lib.hid (HV3.out.keep hb4)
    obtain ⟨Au, cu, rfl, -, hRu, -⟩ := hu.form
    have HU := Lib.hid hRu
    clear hu hRu hb4
    go_wp2_with fail
    refine (refValid_any A n c J w4 (H.out.keep HB4.out) Hn.out).use fun w5 hb5 => ?_
    have HB5 := Lib.hid (HB4.out.trans (hb5.mono HB4.out.size))
    have HV5 := Lib.hid (HV4.out.keep hb5)
    have HU5 := Lib.hid (HU.out.keep hb5)
    clear hb5
    rw [HOk.out]
    obtain ⟨W6, hW6⟩ : ∃ W6, W6 = w5.alloc (.cells #[.slice Av (plS 0 n J).m cv, .slice Au (plS 1 n J).m cu] 36) := ⟨_, rfl⟩
    have hg0 : W6.cell? ⟨w5.heap.size, 0, none⟩ = some (.slice Av (plS 0 n J).m cv) := by rw [hW6]; simp [World.cell?_alloc_at]
    have hg1 : W6.cell? ⟨w5.heap.size, 1, none⟩ = some (.slice Au (plS 1 n J).m cu) := by rw [hW6]; simp [World.cell?_alloc_at]
    have hb6 : Below w5.heap.size w5 W6 := by rw [hW6]; exact (Below.refl _ _).alloc (Nat.le_refl _) _
    have HB6 := Lib.hid (HB5.out.trans (hb6.mono HB5.out.size))
    have HV6 := Lib.hid (HV5.out.keep hb6)
    have HU6 := Lib.hid (HU5.out.keep hb6)
    have HG0 := Lib.hid hg0
    have HG1 := Lib.hid hg1
    have HP0 := Lib.hid (goodP_of 0 HOk.out)
    have HP1 := Lib.hid (goodP_of 1 HOk.out)
    have HM0 := Lib.hid (plS_m 0 HOk.out)
    have HM1 := Lib.hid (plS_m 1 HOk.out)
    have HH6 := Lib.hid (H.out.keep HB6.out)
    clear hg0 hg1 hb6
    generalize (plS 0 n J).m = m0 at *
    generalize (plS 0 n J).p = p0 at *
    generalize (plS 1 n J).m = m1 at *
    generalize (plS 1 n J).p = p1 at *
    generalize smT (enF p1 m1) n = sm at *
    go_wp2
    rw [← hW6]
    clear hW6
    have hs6 : W.heap.size ≤ W6.heap.size := HB6.out.size
    go_loopw [55] (fun i wr => ∃ k : Nat, k ≤ 2 ∧ i = .int .i64 k ∧ Below W6.heap.size W6 wr) (fun i _ => 2 - (intOf i).toNat)
    case atStart => exact ⟨0, Nat.zero_le _, rfl, Below.refl _ _⟩
    case round =>
      obtain ⟨k, hk, rfl, hD⟩ := hrel
      have HD := Lib.hid hD
      clear hD
      by_cases hlt : k < 2
      · have hpick : ∃ Ap cp m p, wr.cell? ⟨w5.heap.size, k, none⟩ = some (.slice Ap m cp) ∧ Recs 3 W6 Ap m p ∧ GoodP n J m p ∧ m ≤ 260 := by
          have : k = 0 ∨ k = 1 := by omega
          rcases this with rfl | rfl
          · exact ⟨Av, cv, m0, p0, (HD.out.cell (World.block_lt_of_cell? _ _ HG0.out)).trans HG0.out, HV6.out, HP0.out, HM0.out⟩
          · exact ⟨Au, cu, m1, p1, (HD.out.cell (World.block_lt_of_cell? _ _ HG1.out)).trans HG1.out, HU6.out, HP1.out, HM1.out⟩
        obtain ⟨Ap, cp, m, p, hgk, hRp, hGood, hm260⟩ := hpick
        have HRp := Lib.hid hRp
        have HGo := Lib.hid hGood
        clear hRp hGood
        obtain ⟨W0, rfl⟩ : ∃ W0, W0 = wr := ⟨wr, rfl⟩
        have hmk := mk_ints n (by omega) W0
        have hk2 : (k : Int) < 2 := by omega
        go_wp2
        have hM := RowI.made W0 n
        have hB0 := HD.out.alloc HD.out.size (.cells (madeCells #[.int .i64 0] n) 3)
        have hL : W6.heap.size ≤ W0.heap.size := HD.out.size
        clear hmk hgk
        generalize W0.alloc (.cells (madeCells #[.int .i64 0] n) 3) = W1 at *
        go_loopw [64] (fun i wr => ∃ j : Nat, j ≤ n ∧ i = .int .i64 j ∧ (∃ f, RowI wr W0.heap.size n f ∧ ∀ a, a < j → f a = J a 0) ∧ Below W6.heap.size W6 wr) (fun i _ => n - (intOf i).toNat)
        case atStart => exact ⟨0, Nat.zero_le _, rfl, ⟨_, hM, fun a ha => absurd ha (by omega)⟩, hB0⟩
        case round =>
          obtain ⟨j, hj, rfl, ⟨f, hR, hf⟩, hD1⟩ := hrel
          have HR := Lib.hid hR
          have HF := Lib.hid hf
          have HD1 := Lib.hid hD1
          clear hR hf hM hB0
          by_cases hjl : j < n
          · obtain ⟨b, o, rfl, c0, c1, c2, c3⟩ := (HH6.out.keep hD1).four hjl
            have hcj := HR.out.cell hjl
            have hfj := HR.out.frozen j
            have HRs := Lib.hid (HR.out.set j (J j 0))
            have HDs := Lib.hid (HD1.out.setCell (p := ⟨W0.heap.size, j, none⟩) hL (.int .i64 (J j 0)))
            clear hD1
            go_wp2
            go_roundw
            case rel => exact ⟨j + 1, by omega, by go_num, ⟨_, HRs.out, fun a ha => by
              unfold upd
              by_cases e : a = j
              · rw [if_pos e, e]
              · rw [if_neg e]
                exact HF.out a (by omega)⟩, HDs.out⟩
            case measure => simp [intOf]; omega
          · have hjn : j = n := by omega
            have HR0 := Lib.hid (HR.out.congr (f' := fun a => J a 0 - dnF p 0 a) (fun a ha => by
              rw [HF.out a (by omega)]
              show J a 0 = J a 0 - 0
              rw [Int.sub_zero]))
            clear hD1 hjn HR HF
            go_wp2
            go_loopw [12, 78] (fun now i wr => ∃ a : Nat, a ≤ m ∧ i = .int .i64 a ∧ now = .int .i64 (pvF p a 2) ∧ RowI wr W0.heap.size n (fun j => J j 0 - dnF p a j) ∧ Below W6.heap.size W6 wr) (fun _ i _ => m - (intOf i).toNat)
            case atStart => exact ⟨0, Nat.zero_le _, rfl, rfl, HR0.out, HD1.out⟩
            case round =>
              obtain ⟨a, ha, rfl, rfl, hR, hD2⟩ := hrel
              have HR := Lib.hid hR
              have HD2 := Lib.hid hD2
              clear hR
              obtain ⟨WP, rfl⟩ : ∃ WP, WP = wr := ⟨wr, rfl⟩
              by_cases hal : a < m
              · obtain ⟨b, o, rfl, c0, c1, c2⟩ := (HRp.out.keep hD2).three hal
                obtain ⟨r1, r2, r3, r4, r5⟩ := HGo.out.rng a hal
                have hgap := HGo.out.gap a hal
                obtain ⟨⟨q1, q2⟩, q3⟩ := HGo.out.bd a ha
                obtain ⟨x, hx, hxn⟩ : ∃ x : Nat, p a 0 = (x : Int) ∧ x < n := ⟨(p a 0).toNat, by omega, by omega⟩
                have hq3 := q3 x
                obtain ⟨hq31, hq32⟩ := hq3
                have hJx := (okJ_iff.1 HOk.out).2 x hxn
                obtain ⟨⟨hJ1, hJ2⟩, -⟩ := hJx
                have HDn := Lib.hid (show dnF p (a + 1) = upd (dnF p a) x (dnF p a x + (p a 2 - p a 1)) by rw [dnF, hx]; rfl)
                have hp1 : pvF p (a + 1) 2 = p a 2 := rfl
                have HP1' := Lib.hid hp1
                rw [hx] at c0
                have hW1 := hD2.alloc hD2.size (.cells #[.int .i64 (x : Int), .int .i64 (p a 1), .int .i64 (p a 2)] 65)
                have hR1 := HR.out.alloc (.cells #[.int .i64 (x : Int), .int .i64 (p a 1), .int .i64 (p a 2)] 65)
                have y0 : (WP.alloc (.cells #[.int .i64 (x : Int), .int .i64 (p a 1), .int .i64 (p a 2)] 65)).cell? ⟨WP.heap.size, 0, none⟩ = some (.int .i64 (x : Int)) := by simp [World.cell?_alloc_at]
                have y1 : (WP.alloc (.cells #[.int .i64 (x : Int), .int .i64 (p a 1), .int .i64 (p a 2)] 65)).cell? ⟨WP.heap.size, 1, none⟩ = some (.int .i64 (p a 1)) := by simp [World.cell?_alloc_at]
                have y2 : (WP.alloc (.cells #[.int .i64 (x : Int), .int .i64 (p a 1), .int .i64 (p a 2)] 65)).cell? ⟨WP.heap.size, 2, none⟩ = some (.int .i64 (p a 2)) := by simp [World.cell?_alloc_at]
                have HW1 := Lib.hid hW1
                have HR1 := Lib.hid hR1
                have HGap := Lib.hid hgap
                have d0 : decide ((x : Int) < 0) = false := decide_eq_false (by omega)
                have d1 : decide ((n : Int) ≤ (x : Int)) = false := decide_eq_false (by omega)
                have d2 : decide (p a 1 < pvF p a 2) = false := decide_eq_false (by omega)
                have d3 : decide (p a 2 ≤ p a 1) = false := decide_eq_false (by omega)
                have hxi : (x : Int) < n := by omega
                clear hW1 hR1 hgap hp1 hx r1 r2 hD2 q3
                generalize hnw : pvF p a 2 = nw at *
                generalize hfr : p a 1 = fr at *
                generalize hto : p a 2 = to_ at *
                clear hnw hfr hto
                go_wp2
                generalize WP.alloc (.cells #[.int .i64 (x : Int), .int .i64 fr, .int .i64 to_] 65) = WX at *
                have hLw : W0.heap.size < WP.heap.size := HR.out.lt
                go_loopw [107] (fun i wr => ∃ k : Nat, k ≤ n ∧ i = .int .i64 k ∧ Dn WX wr) (fun i _ => n - (intOf i).toNat)
                case atStart => exact ⟨0, Nat.zero_le _, rfl, Dn.refl _⟩
                case round =>
                  obtain ⟨q, hq, rfl, hDn⟩ := hrel
                  have HR2 := Lib.hid (HR1.out.dn hDn)
                  have HW2 := Lib.hid (HW1.out.trans (hDn.below _))
                  have w0 : wr.cell? ⟨WP.heap.size, 0, none⟩ = some (.int .i64 (x : Int)) := by obtain ⟨u, rfl⟩ := hDn; exact y0
                  have w1' : wr.cell? ⟨WP.heap.size, 1, none⟩ = some (.int .i64 fr) := by obtain ⟨u, rfl⟩ := hDn; exact y1
                  have w2' : wr.cell? ⟨WP.heap.size, 2, none⟩ = some (.int .i64 to_) := by obtain ⟨u, rfl⟩ := hDn; exact y2
                  by_cases hql : q < n
                  · obtain ⟨b2, o2, rfl, g0, g1, g2, g3⟩ := (HH6.out.keep HW2.out).four hql
                    have hcq := HR2.out.cell hql
                    have HGq := Lib.hid (fun h => HGap.out h q hql)
                    have HDnq := Lib.hid hDn
                    clear y0 y1 y2 hDn
                    by_cases h1 : nw < fr
                    · have e1 : decide (nw < fr) = true := decide_eq_true h1
                      rcases HGq.out h1 with h2 | h2
                      · have e2 : J q 0 - dnF p a q = 0 := by omega
                        rw [e2] at hcq
                        clear h1 h2 e2
                        go_wp2_with fail
                        go_quiet (fail)
                        go_wp2
                        go_roundw
                        case rel => exact ⟨q + 1, by omega, by go_num, HDnq.out.drewN _⟩
                        case measure => simp [intOf]; omega
                      · have e3 : decide (J q 1 < fr) = false := decide_eq_false (by omega)
                        generalize J q 0 - dnF p a q = lv at *
                        clear h1 h2
                        by_cases h4 : 0 < lv
                        · have e4 : decide (0 < lv) = true := decide_eq_true h4
                          clear h4
                          go_wp2_with fail
                          go_quiet (fail)
                          go_wp2
                          go_roundw
                          case rel => exact ⟨q + 1, by omega, by go_num, HDnq.out.drewN _⟩
                          case measure => simp [intOf]; omega
                        · have e4 : decide (0 < lv) = false := decide_eq_false h4
                          clear h4
                          go_wp2_with fail
                          go_quiet (fail)
                          go_wp2
                          go_roundw
                          case rel => exact ⟨q + 1, by omega, by go_num, HDnq.out.drewN _⟩
                          case measure => simp [intOf]; omega
                    · have e1 : decide (nw < fr) = false := decide_eq_false h1
                      clear h1
                      go_wp2_with fail
                      go_quiet (fail)
                      go_wp2
                      go_roundw
                      case rel => exact ⟨q + 1, by omega, by go_num, HDnq.out.drewN _⟩
                      case measure => simp [intOf]; omega
                  · have hcx := HR2.out.cell hxn
                    have hfx := HR2.out.frozen x
                    have hlv : J x 0 - dnF p a x ≤ 20 ∧ -260 ≤ J x 0 - dnF p a x := by omega
                    obtain ⟨hlv1, hlv2⟩ := hlv
                    have HRs := Lib.hid (RowI.congr (HR2.out.set x (J x 0 - dnF p a x - (to_ - fr))) (f' := fun j => J j 0 - dnF p (a + 1) j) (fun j hj => by
                      rw [HDn.out]
                      unfold upd
                      by_cases e : j = x
                      · subst e
                        simp only [if_true]
                        omega
                      · simp only [if_neg e]))
                    have HDs := Lib.hid (HW2.out.setCell (p := ⟨W0.heap.size, x, none⟩) hL (.int .i64 (J x 0 - dnF p a x - (to_ - fr))))
                    clear y0 y1 y2 hDn
                    generalize J x 0 - dnF p a x = lv at *
                    go_wp2_with fail
                    go_region
                    go_wp2
                    go_roundw
                    case rel => exact ⟨a + 1, by omega, by go_num, by rw [HP1'.out], World.rowIs.of_block HRs.out rfl, HDs.out.trans (((Dn.refl _).drewN _).below _)⟩
                    case measure => simp [intOf]; omega
              · have ham : a = m := by omega
                rw [ham] at HR
                have HZ := Lib.hid (HR.out.congr (f' := fun _ => 0) (fun j hj => by
                  rw [HGo.out.done j hj, Int.sub_self]))
                have HD2' := HD2
                clear hD2 ham HR
                go_wp2
                go_loopw [149] (fun i wr => ∃ k : Nat, k ≤ n ∧ i = .int .i64 k ∧ Dn WP wr) (fun i _ => n - (intOf i).toNat)
                case atStart => exact ⟨0, Nat.zero_le _, rfl, Dn.refl _⟩
                case round =>
                  obtain ⟨q, hq, rfl, hDn⟩ := hrel
                  have HDn := Lib.hid hDn
                  by_cases hql : q < n
                  · have hcq := (HZ.out.dn hDn).cell hql
                    clear hDn
                    go_wp2
                    go_roundw
                    case rel => exact ⟨q + 1, by omega, by go_num, HDn.out⟩
                    case measure => simp [intOf]; omega
                  · clear hDn
                    go_wp2
                    go_roundw
                    case rel => exact ⟨k + 1, by omega, by go_num, HD2'.out.trans (HDn.out.below _)⟩
                    case measure => simp [intOf]; omega
      · go_wp2_with fail
        refine (awake_any wr).use fun w8 hb8 => ?_
        have HB8 := Lib.hid (HB6.out.trans (HD.out.mono hs6))
        have HB9 := Lib.hid (HB8.out.trans (hb8.mono HB8.out.size))
        clear hb8
        go_wp2
        go_ret
        exact ⟨rfl, HB9.out⟩
end Go.Proofs.Ythbahfmcmbjglaa
