/- The law VoteMajority, walked. -/
import Derived.Test.YtbaedcpbcelmpaaBo
import Derived.Test.YtbaedcpbcelmpaaMj
namespace Go.Proofs.Ytbaedcpbcelmpaa
open Go.RowKit

set_option maxHeartbeats 2000000 in
set_option maxRecDepth 1000000 in
theorem voteMajority_bad (A : Option Addr) (n c : Nat) (L : Nat → Nat) (v : Nat → Nat → Int) (w : World) (h : ArgR w A n c L v) (hok : okBal n L v = false) :
    Calls Try.prog 7 #[.slice A n c] w fun e w' => e = .returned (.bool true) ∧ Below w.heap.size w w' := by
  have H := Lib.hid h
  have HK := Lib.hid hok
  clear h hok
  go_enter Try.func7, Try.ntmps7
  go_wp2_with fail
  refine (FewF A n c L v _ H.out).mono ?_
  rintro e w1 ⟨A1, k1, c1, rfl, hk1, hr1, hc1, hb1⟩
  have HM := Lib.hid (MarginsFbad (cA := c1) hr1 hk1 HK.out)
  have Hb1 := Lib.hid hb1
  clear hk1 hr1 hc1 hb1
  go_wp2_with fail
  refine Lr.use HM.out ?_
  intro w2 hb2
  have Hb2 := Lib.hid (Hb1.out.trans (hb2.mono Hb1.out.size))
  clear hb2 HM
  go_wp2_with fail
  refine Lr.use (awake_any _) ?_
  intro w6 hb6
  have Hb6 := Lib.hid (Hb2.out.trans (hb6.mono Hb2.out.size))
  clear hb6
  go_wp2
  go_ret
  exact ⟨rfl, Hb6.out⟩

/-- Candidate a has a majority over b, or is b. -/
def btP (T : Nat → Int) (a b : Nat) : Bool := decide (a = b) || decide (0 < T (5 * a + b))

theorem dn_cell {w w' : World} {a : Addr} {x : Value} (h : Dn w w') (hc : w.cell? a = some x) : w'.cell? a = some x := by
  obtain ⟨m, rfl⟩ := h
  exact hc
theorem wrap64_pow (a : Nat) (h : a < 62) : wrap64 (2 ^ a) = ((2 ^ a : Nat) : Int) := by
  have h1 : (2 : Nat) ^ a ≤ 2 ^ 61 := Nat.pow_le_pow_right (by omega) (by omega)
  have e : ((2 : Int) ^ a) = ((2 ^ a : Nat) : Int) := by simp
  rw [e]
  generalize 2 ^ a = q at *
  unfold wrap64
  omega
set_option maxHeartbeats 4000000 in
set_option maxRecDepth 1000000 in
theorem voteMajority_fine (A : Option Addr) (n c : Nat) (L : Nat → Nat) (v : Nat → Nat → Int) (w : World) (h : ArgR w A n c L v) (hok : okBal n L v = true) :
    Calls Try.prog 7 #[.slice A n c] w fun e w' => e = .returned (.bool true) ∧ Below w.heap.size w w' := by
  have H := Lib.hid h
  have HK := Lib.hid hok
  obtain ⟨⟨hB1, hB9⟩, ⟨hB2, hB3⟩, hB4⟩ := okBal_iff.1 hok
  obtain ⟨s0, hs0⟩ := bst_exists (T := mAll v (L 0) n) hB2 hB3
  have hcls := wT_cls (T := mAll v (L 0) n) hB3 (mAll_dia hok) (L 0) (Nat.le_refl _)
  obtain ⟨k0, hk0, hst, hno⟩ := str_exists hB2 hcls
  have HMj : Hid (∀ a, a < L 0 → (∀ b, b < L 0 → b ≠ a → 0 < mAll v (L 0) n (5 * a + b)) → s0 = 2 ^ a ∧ k0 = a ∧ rowF (kemL n (mAll v (L 0) n) (L 0)) 0 = a ∧ ∀ b, b < L 0 → b ≠ a → ¬ wT (L 0) (mAll v (L 0) n) (L 0) (5 * a + b) < wT (L 0) (mAll v (L 0) n) (L 0) (5 * b + a)) := Lib.hid (fun a ha hb => by
    refine ⟨mj_best hB3 (mAll_anti hok) ha hb hs0, mj_win hB3 (mAll_dia hok) (mAll_anti hok) ha hb hk0 hst, mj_first hB3 (mAll_anti hok) (bal_bd hok) ha hb, fun b hb1 hb2 => ?_⟩
    have := mj_str hB3 (mAll_dia hok) (mAll_anti hok) ha hb hb1 hb2
    omega)
  have HMm : Hid (∀ a b, a < L 0 → b < L 0 → mrg v (L 0) a b n = mAll v (L 0) n (5 * a + b)) := Lib.hid (fun a b ha hb => (mAll_at hB3 ha hb n (fun i hi => (hB4 i hi).2)).symm)
  have HS := Lib.hid hs0
  have HSt := Lib.hid hst
  have HNo := Lib.hid hno
  clear h hok hs0 hB1 hB4 hB9 hcls hst hno
  go_enter Try.func7, Try.ntmps7
  go_wp2_with fail
  refine (FewF A n c L v _ H.out).mono ?_
  rintro e w1 ⟨A1, k1, c1, rfl, hk1, hr1, hc1, hb1⟩
  have HM := Lib.hid (MarginsF (cA := c1) hr1 hk1 hc1 HK.out)
  have Hb1 := Lib.hid hb1
  clear hk1 hr1 hc1 hb1
  go_wp2_with fail
  refine HM.out.mono ?_
  rintro e w2 ⟨A2, c2, rfl, hr2, hb2⟩
  have HX2 := Lib.hid (hr2.congrV (v' := fun a b => mAll v (L 0) n (5 * a + b)) (fun a b ha hb => HMm.out a b ha hb))
  have Hb2 := Lib.hid (Hb1.out.trans (hb2.mono Hb1.out.size))
  clear hb2 HM hr2
  go_wp2_with fail
  refine (FewF A n c L v _ (H.out.below Hb2.out)).mono ?_
  rintro e w3 ⟨A3, k3, c3, rfl, hk3, hr3, hc3, hb3⟩
  have HM := Lib.hid (BestF (cA := c3) hr3 hk3 hc3 HK.out HS.out)
  have HX3 := Lib.hid (HX2.out.keep hb3)
  have Hb3 := Lib.hid (Hb2.out.trans (hb3.mono Hb2.out.size))
  clear hk3 hr3 hc3 hb3
  go_wp2_with fail
  refine Lr.use HM.out ?_
  intro w4 hb4
  have HX4 := Lib.hid (HX3.out.keep hb4)
  have Hb4 := Lib.hid (Hb3.out.trans (hb4.mono Hb3.out.size))
  clear hb4 HM
  go_wp2_with fail
  refine (FewF A n c L v _ (H.out.below Hb4.out)).mono ?_
  rintro e w5 ⟨A5, k5, c5, rfl, hk5, hr5, hc5, hb5⟩
  have HM := Lib.hid (WidthsF (cA := c5) hr5 hk5 hc5 HK.out)
  have HX5 := Lib.hid (HX4.out.keep hb5)
  have Hb5 := Lib.hid (Hb4.out.trans (hb5.mono Hb4.out.size))
  clear hk5 hr5 hc5 hb5
  go_wp2_with fail
  refine HM.out.mono ?_
  rintro e w6 ⟨A6, c6, rfl, hr6, hb6⟩
  have HY6 := Lib.hid hr6
  have HX6 := Lib.hid (HX5.out.keep hb6)
  have Hb6 := Lib.hid (Hb5.out.trans (hb6.mono Hb5.out.size))
  clear hb6 hr6 HM
  go_wp2_with fail
  refine (FewF A n c L v _ (H.out.below Hb6.out)).mono ?_
  rintro e w7 ⟨A7, k7, c7, rfl, hk7, hr7, hc7, hb7⟩
  have HM := Lib.hid (KemenyF (cA := c7) hr7 hk7 hc7 HK.out)
  have HX7 := Lib.hid (HX6.out.keep hb7)
  have HY7 := Lib.hid (HY6.out.keep hb7)
  have Hb7 := Lib.hid (Hb6.out.trans (hb7.mono Hb6.out.size))
  clear hk7 hr7 hc7 hb7
  go_wp2_with fail
  refine HM.out.mono ?_
  rintro e w8 ⟨g, cap, rfl, -, -, hG, hb8⟩
  have HG8 := Lib.hid hG
  have HX8 := Lib.hid (HX7.out.keep hb8)
  have HY8 := Lib.hid (HY7.out.keep hb8)
  have Hb8 := Lib.hid (Hb7.out.trans (hb8.mono Hb7.out.size))
  clear hb8 hG HM
  go_wp2_with fail
  refine (FewF A n c L v _ (H.out.below Hb8.out)).mono ?_
  rintro e w9 ⟨A9, k9, c9, rfl, hk9, hr9, hc9, hb9⟩
  have HM := Lib.hid (WinF (cA := c9) hr9 hk9 hc9 HK.out hk0 HSt.out HNo.out)
  have HX9 := Lib.hid (HX8.out.keep hb9)
  have HY9 := Lib.hid (HY8.out.keep hb9)
  have HG9 := Lib.hid (HG8.out.keep hb9)
  have Hb9 := Lib.hid (Hb8.out.trans (hb9.mono Hb8.out.size))
  clear hk9 hr9 hc9 hb9
  go_wp2_with fail
  refine Lr.use HM.out ?_
  intro w10 hb10
  have HX10 := Lib.hid (HX9.out.keep hb10)
  have HY10 := Lib.hid (HY9.out.keep hb10)
  have HG10 := Lib.hid (HG9.out.keep hb10)
  have Hb10 := Lib.hid (Hb9.out.trans (hb10.mono Hb9.out.size))
  clear hb10 HM
  go_wp2_with fail
  refine (FewF A n c L v _ (H.out.below Hb10.out)).mono ?_
  rintro e w11 ⟨A11, k11, c11, rfl, hk11, hr11, hc11, hb11⟩
  have HM := Lib.hid (WinOF (cA := c11) hr11 hk11 hc11 HK.out)
  have HX11 := Lib.hid (HX10.out.keep hb11)
  have HY11 := Lib.hid (HY10.out.keep hb11)
  have HG11 := Lib.hid (HG10.out.keep hb11)
  have Hb11 := Lib.hid (Hb10.out.trans (hb11.mono Hb10.out.size))
  clear hk11 hr11 hc11 hb11
  go_wp2_with fail
  refine Lr.use HM.out ?_
  intro w12 hb12
  have HX12 := Lib.hid (HX11.out.keep hb12)
  have HY12 := Lib.hid (HY11.out.keep hb12)
  have HG12 := Lib.hid (HG11.out.keep hb12)
  have Hb12 := Lib.hid (Hb11.out.trans (hb12.mono Hb11.out.size))
  clear hb12 HM HX2 HX3 HX4 HX5 HX6 HX7 HX8 HX9 HX10 HX11 HY6 HY7 HY8 HY9 HY10 HY11 HG8 HG9 HG10 HG11 HS HSt HNo HMm
  generalize wT (L 0) (mAll v (L 0) n) (L 0) = W at *
  generalize rowF (kemL n (mAll v (L 0) n) (L 0)) = o at *
  generalize mAll v (L 0) n = T at *
  generalize hcc : L 0 = C at *
  clear hcc
  have HG0 := Lib.hid (HG12.out.cell (i := 0) (by omega))
  generalize o 0 = z0 at *
  go_wp2
  go_loopw [97] (fun i wr => ∃ a : Nat, a ≤ C ∧ i = .int .i64 a ∧ Dn w12 wr) (fun i _ => C - (intOf i).toNat)
  case atStart => exact ⟨0, Nat.zero_le _, rfl, Dn.refl _⟩
  case round =>
    obtain ⟨a, ha, rfl, hD⟩ := hrel
    have HDa := Lib.hid hD
    clear hD
    by_cases hla : a < C
    · obtain ⟨xb, xo, X1, x1, eX, hX1, hX2⟩ := (HX12.out.dn HDa.out).at hla
      subst eX
      have HRow := Lib.hid hX2
      clear hX2
      have hself := beq_t (rfl : (C : Int) = C)
      go_wp2
      go_loopw [16, 110] (fun s i wx => ∃ b : Nat, b ≤ C ∧ i = .int .i64 b ∧ s = .bool (allB (btP T a) b) ∧ wr = wx) (fun _ i _ => C - (intOf i).toNat)
      case atStart => exact ⟨0, Nat.zero_le _, rfl, rfl, rfl⟩
      case round =>
        obtain ⟨b, hb, rfl, rfl, rfl⟩ := hrel
        by_cases hlb : b < C
        · have HNx : Hid (allB (btP T a) (b + 1) = (allB (btP T a) b && btP T a b)) := Lib.hid rfl
          obtain ⟨p1, p2, rfl, hp⟩ := HRow.out.at hlb
          generalize hst0 : allB (btP T a) b = st at *
          have HSt0 := Lib.hid hst0
          clear hst0
          cases st with
          | false =>
            go_wp2
            go_roundw
            case rel => exact ⟨b + 1, by omega, by go_num, by rw [HNx.out, Bool.false_and], trivial⟩
            case measure => simp [intOf]; omega
          | true =>
            by_cases hab : a = b
            · have HB : Hid (btP T a b = true) := Lib.hid (by unfold btP; rw [decide_eq_true hab]; rfl)
              have hb1 := beq_t (show (a : Int) = b by omega)
              go_wp2
              go_roundw
              case rel => exact ⟨b + 1, by omega, by go_num, by rw [HNx.out, HB.out, Bool.true_and], trivial⟩
              case measure => simp [intOf]; omega
            · have HB : Hid (btP T a b = decide (0 < T (5 * a + b))) := Lib.hid (by unfold btP; rw [decide_eq_false hab, Bool.false_or])
              have hb1 := beq_f (show ¬ (a : Int) = b by omega)
              generalize T (5 * a + b) = t at *
              go_wp2
              go_roundw
              case rel => exact ⟨b + 1, by omega, by go_num, by rw [HNx.out, HB.out, Bool.true_and], trivial⟩
              case measure => simp [intOf]; omega
        · have hbc : b = C := by omega
          rw [hbc]
          clear hbc hlb hb
          have HDz := Lib.hid HDa.out
          cases hst : allB (btP T a) C with
          | false =>
            go_wp2
            go_roundw
            case rel => exact ⟨a + 1, by omega, by go_num, HDz.out⟩
            case measure => simp [intOf]; omega
          | true =>
            have hall : ∀ b, b < C → b ≠ a → 0 < T (5 * a + b) := fun b hb hne => by
              have h1 := allB_iff.1 hst b hb
              unfold btP at h1
              rw [decide_eq_false (fun e => hne e.symm), Bool.false_or] at h1
              exact of_decide_eq_true h1
            obtain ⟨h1, h2, h3, h4⟩ := HMj.out a hla hall
            have H1 := Lib.hid h1
            have H2 := Lib.hid h2
            have H3 := Lib.hid h3
            have H4 := Lib.hid h4
            clear h1 h2 h3 h4 hall hst
            obtain ⟨Y, rfl⟩ : ∃ Y, Y = wr := ⟨wr, rfl⟩
            go_wp2
            go_loopw [134] (fun i wx => ∃ b : Nat, b ≤ C ∧ i = .int .i64 b ∧ Dn Y wx) (fun i _ => C - (intOf i).toNat)
            case atStart => exact ⟨0, Nat.zero_le _, rfl, Dn.refl _⟩
            case round =>
              obtain ⟨b, hb, rfl, hD⟩ := hrel
              have HDb := Lib.hid (HDa.out.trans hD)
              have HDy := Lib.hid hD
              clear hD
              by_cases hlb : b < C
              · by_cases hab : a = b
                · have hb1 := beq_t (show (a : Int) = b by omega)
                  go_wp2
                  go_quiet (fail)
                  go_wp2
                  go_roundw
                  case rel => exact ⟨b + 1, by omega, by go_num, HDy.out.drewN _⟩
                  case measure => simp [intOf]; omega
                · have hb1 : ((a : Int) != b) = true := by rw [bne, beq_f (show ¬ (a : Int) = b by omega)]; rfl
                  obtain ⟨ub, uo, U1, u1, eU, hU1, hU2⟩ := (HY12.out.dn HDb.out).at hla
                  obtain ⟨yb, yo, Y1, y1, eY, hY1, hY2⟩ := (HY12.out.dn HDb.out).at hlb
                  subst eU
                  injection eY with eY
                  injection eY with eY1 eY2
                  subst eY1 eY2
                  obtain ⟨p1, p2, rfl, hp⟩ := hU2.at hlb
                  obtain ⟨q1, q2, rfl, hq⟩ := hY2.at hla
                  have hlt : decide (W (5 * a + b) < W (5 * b + a)) = false := decide_eq_false (by have := H4.out b hlb (fun e => hab e.symm); omega)
                  clear hU2 hY2
                  generalize W (5 * a + b) = m1 at *
                  generalize W (5 * b + a) = m2 at *
                  go_wp2
                  go_quiet (fail)
                  go_wp2
                  go_roundw
                  case rel => exact ⟨b + 1, by omega, by go_num, HDy.out.drewN _⟩
                  case measure => simp [intOf]; omega
              · have hbc : b = C := by omega
                rw [hbc]
                clear hbc hlb hb
                have hg0 := HG0.out
                have hg0 := dn_cell HDb.out hg0
                have hsa : wrap64 (2 ^ a) = (s0 : Int) := by rw [H1.out]; exact wrap64_pow a (by omega)
                have H5 := H2.out
                have H6 := H3.out
                subst H5
                subst H6
                go_wp2
                go_roundw
                case rel => exact ⟨k0 + 1, by omega, by go_num, HDb.out⟩
                case measure => simp [intOf]; omega
    · have hac : a = C := by omega
      have Hb13 := Lib.hid (Hb12.out.trans (HDa.out.below _))
      rw [hac]
      clear hac hla ha
      go_wp2_with fail
      refine Lr.use (awake_any _) ?_
      intro w8 hb8
      have Hb14 := Lib.hid (Hb13.out.trans (hb8.mono Hb13.out.size))
      clear hb8
      go_wp2
      go_ret
      exact ⟨rfl, Hb14.out⟩
theorem voteMajority_walk (A : Option Addr) (n c : Nat) (L : Nat → Nat) (v : Nat → Nat → Int) (w : World) (h : ArgR w A n c L v) :
    Calls Try.prog 7 #[.slice A n c] w fun e w' => e = .returned (.bool true) ∧ Below w.heap.size w w' := by
  cases hok : okBal n L v with
  | false => exact voteMajority_bad A n c L v w h hok
  | true => exact voteMajority_fine A n c L v w h hok
end Go.Proofs.Ytbaedcpbcelmpaa
