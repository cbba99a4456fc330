/- The law VoteOrders, walked. -/
import Derived.Test.YtbaedcpbcelmpaaKm
import Derived.Test.YtbaedcpbcelmpaaLv
namespace Go.Proofs.Ytbaedcpbcelmpaa
open Go.RowKit

set_option maxHeartbeats 2000000 in
set_option maxRecDepth 1000000 in
theorem voteOrders_bad (A : Option Addr) (n c : Nat) (L : Nat → Nat) (v : Nat → Nat → Int) (D : Option Addr) (m cd : Nat) (_o : Nat → Int) (w : World) (h : ArgR w A n c L v) (hok : okBal n L v = false) :
    Calls Try.prog 8 #[.slice A n c, .slice D m cd] w fun e w' => e = .returned (.bool true) ∧ Below w.heap.size w w' := by
  have H := Lib.hid h
  have HK := Lib.hid hok
  clear h hok
  go_enter Try.func8, Try.ntmps8
  go_wp2_with fail
  refine (FewF A n c L v _ H.out).mono ?_
  rintro e w1 ⟨A1, k1, c1, rfl, hk1, hr1, hc1, hb1⟩
  have HM := Lib.hid (MarginsFbad (cA := c1) hr1 hk1 HK.out)
  have Hb1 := Lib.hid hb1
  clear hk1 hr1 hc1 hb1
  go_wp2_with fail
  refine Lr.use HM.out ?_
  intro w2 hb2
  have Hb2 := Lib.hid (Hb1.out.trans (hb2.mono Hb1.out.size))
  clear hb2 HM
  go_wp2_with fail
  refine Lr.use (awake_any _) ?_
  intro w6 hb6
  have Hb6 := Lib.hid (Hb2.out.trans (hb6.mono Hb2.out.size))
  clear hb6
  go_wp2
  go_ret
  exact ⟨rfl, Hb6.out⟩
-- END BAD

/-- Of those before a: no margin is 0, no circle. -/
def PlA (T : Nat → Int) (C a : Nat) : Prop := ∀ a', a' < a → (∀ b, b < a' → T (5 * a' + b) ≠ 0) ∧ ∀ b d, b < C → d < C → ¬(0 < T (5 * a' + b) ∧ 0 < T (5 * b + d) ∧ 0 < T (5 * d + a'))
def lesR (n : Nat) (T : Nat → Int) (a k : Nat) : Int := sumZ (fun b => lesI n (T (5 * a + b))) k
theorem ordB_kem {c n : Nat} {T : Nat → Int} : ordB c c (rowF (kemL n T c)) = true := ordB_iff.2 ⟨rfl, (ord_of_mem (kem_mem n T c)).2⟩
theorem ordB_fewm {c m : Nat} {o : Nat → Int} (hc : c ≤ 5) (h : ordB c m o = false) : ordB c (min m 11) o = false := by
  cases h2 : ordB c (min m 11) o with
  | false => rfl
  | true =>
    obtain ⟨e, hO⟩ := ordB_iff.1 h2
    have : m = c := by omega
    rw [← h, ordB_iff.2 ⟨this, hO⟩]
theorem sumZ_bd {f : Nat → Int} {B : Int} : ∀ {k : Nat}, (∀ i, i < k → 0 ≤ f i ∧ f i ≤ B) → 0 ≤ sumZ f k ∧ sumZ f k ≤ B * k := by
  intro k
  induction k with
  | zero => intro _; simp [sumZ]
  | succ k ih =>
    intro h
    have h1 := ih (fun i hi => h i (by omega))
    have h2 := h k (by omega)
    have h3 : B * ((k + 1 : Nat) : Int) = B * k + B := by rw [Int.natCast_add, Int.mul_add]; simp
    simp only [sumZ]
    omega
theorem lesI_bd {n : Nat} {t : Int} (hn : n ≤ 9) (h1 : -(n : Int) ≤ t) (h2 : t ≤ n) : 0 ≤ lesI n t ∧ lesI n t ≤ 9 := by
  unfold lesI
  rw [Int.tdiv_eq_ediv_of_nonneg (by omega)]
  omega
theorem lesI_if {n : Nat} {t : Int} (h1 : -(n : Int) ≤ t) (h2 : t ≤ n) : lesI n t = ((n : Int) - if t < -t then -t else t) / 2 := by
  have e : max t (-t) = if t < -t then -t else t := by split <;> omega
  unfold lesI
  rw [Int.tdiv_eq_ediv_of_nonneg (by omega), e]
theorem lesR_bd {n C a : Nat} {T : Nat → Int} (hn : n ≤ 9) (h : ∀ b, b < C → -(n : Int) ≤ T (5 * a + b) ∧ T (5 * a + b) ≤ n) {k : Nat} (hk : k ≤ C) : 0 ≤ lesR n T a k ∧ lesR n T a k ≤ 9 * k :=
  sumZ_bd (fun b hb => lesI_bd hn (h b (by omega)).1 (h b (by omega)).2)
theorem sumR_bd {n C : Nat} {T : Nat → Int} (hn : n ≤ 9) (h : ∀ a b, a < C → b < C → -(n : Int) ≤ T (5 * a + b) ∧ T (5 * a + b) ≤ n) {k : Nat} (hk : k ≤ C) (hC : C ≤ 5) : 0 ≤ sumZ (fun a => lesR n T a a) k ∧ sumZ (fun a => lesR n T a a) k ≤ 45 * k :=
  sumZ_bd (fun a ha => by
    have := lesR_bd (a := a) hn (fun b hb => h a b (by omega) hb) (show a ≤ C by omega)
    omega)
theorem DisFbad {n m k km cA cap : Nat} {L : Nat → Nat} {v : Nat → Nat → Int} {o : Nat → Int} {A D : Option Addr} {w : World} (h : RowsK w A k (fun i => min (L i) 11) v) (hk : k = min n 11) (hA : k ≤ cA) (hD : Ints w D km o) (hkm : km = min m 11) (hcap : km ≤ cap) (hok : okBal n L v = true) (ho : ordB (L 0) m o = false) :
    Lr 24 #[.slice A k cA, .slice D km cap] w (.tuple #[.int .i64 0, .int .i64 2]) := by
  subst hk hkm
  obtain ⟨e1, e2, e3⟩ := bal_few hok
  obtain ⟨h1, ⟨h2, h3⟩, h4⟩ := okBal_iff.1 hok
  exact Disagreement_bad A D (min n 11) cA (min m 11) cap (fun i => min (L i) 11) v o w h (by rw [okBal_few]; exact hok) hA hD hcap (by omega) (by simp only [e2]; exact ordB_fewm h3 ho)

set_option maxHeartbeats 4000000 in
set_option maxRecDepth 1000000 in
theorem voteOrders_ord (A : Option Addr) (n c : Nat) (L : Nat → Nat) (v : Nat → Nat → Int) (D : Option Addr) (m cd : Nat) (o : Nat → Int) (w : World) (h : ArgR w A n c L v) (hd : ArgI w D m cd o) (hok : okBal n L v = true) (hO : ordB (L 0) m o = true) :
    Calls Try.prog 8 #[.slice A n c, .slice D m cd] w fun e w' => e = .returned (.bool true) ∧ Below w.heap.size w w' := by
  have H := Lib.hid h
  have HD := Lib.hid hd
  have HK := Lib.hid hok
  have HO := Lib.hid hO
  obtain ⟨⟨hB1, hB9⟩, ⟨hB2, hB3⟩, hB4⟩ := okBal_iff.1 hok
  obtain ⟨q1, q2, q3⟩ := bal_few hok
  have HL2 : Hid (min (L 0) 11 = L 0) := Lib.hid q2
  have HMm : Hid (∀ a b, a < L 0 → b < L 0 → mrg v (L 0) a b n = mAll v (L 0) n (5 * a + b)) := Lib.hid (fun a b ha hb => (mAll_at hB3 ha hb n (fun i hi => (hB4 i hi).2)).symm)
  have HLow : Hid (lesS n (mAll v (L 0) n) (L 0) ≤ disS n (mAll v (L 0) n) (rowF (kemL n (mAll v (L 0) n) (L 0))) (L 0)) := Lib.hid (les_lower hB3 (mAll_anti hok) (bal_bd hok) (ord_of_mem (kem_mem n _ _)).2)
  have HEq : Hid ((∀ a b, b < a → a < L 0 → mAll v (L 0) n (5 * a + b) ≠ 0) → (∀ a b d, a < L 0 → b < L 0 → d < L 0 → ¬(0 < mAll v (L 0) n (5 * a + b) ∧ 0 < mAll v (L 0) n (5 * b + d) ∧ 0 < mAll v (L 0) n (5 * d + a))) → disS n (mAll v (L 0) n) (rowF (kemL n (mAll v (L 0) n) (L 0))) (L 0) = lesS n (mAll v (L 0) n) (L 0)) := Lib.hid (fun hz hno => by
    obtain ⟨o', h1, h2⟩ := les_equal (n := n) hB3 (mAll_anti hok) hz hno
    have h3 := kem_min n (mAll v (L 0) n) h1
    have h4 := les_lower hB3 (mAll_anti hok) (bal_bd hok) (ord_of_mem (kem_mem n (mAll v (L 0) n) (L 0))).2
    omega)
  have HBd : Hid (∀ a b, a < L 0 → b < L 0 → -(n : Int) ≤ mAll v (L 0) n (5 * a + b) ∧ mAll v (L 0) n (5 * a + b) ≤ n) := Lib.hid (bal_bd hok)
  have HOk := Lib.hid (ordB_kem (c := L 0) (n := n) (T := mAll v (L 0) n))
  have HLe : Hid (disS n (mAll v (L 0) n) (rowF (kemL n (mAll v (L 0) n) (L 0))) (L 0) ≤ disS n (mAll v (L 0) n) o (L 0)) := Lib.hid (kem_min n (mAll v (L 0) n) (ordB_iff.1 hO).2)
  clear h hd hok hO hB1 hB4 q1 q2 q3
  go_enter Try.func8, Try.ntmps8
  go_wp2_with fail
  refine (FewF A n c L v _ H.out).mono ?_
  rintro e w1 ⟨A1, k1, c1, rfl, hk1, hr1, hc1, hb1⟩
  have HM := Lib.hid (MarginsF (cA := c1) hr1 hk1 hc1 HK.out)
  have Hb1 := Lib.hid hb1
  clear hk1 hr1 hc1 hb1
  go_wp2_with fail
  refine HM.out.mono ?_
  rintro e w2 ⟨A2, c2, rfl, hr2, hb2⟩
  have HX2 := Lib.hid (hr2.congrV (v' := fun a b => mAll v (L 0) n (5 * a + b)) (fun a b ha hb => HMm.out a b ha hb))
  have Hb2 := Lib.hid (Hb1.out.trans (hb2.mono Hb1.out.size))
  clear hb2 HM hr2
  go_wp2_with fail
  refine (FewF A n c L v _ (H.out.below Hb2.out)).mono ?_
  rintro e w3 ⟨A3, k3, c3, rfl, hk3, hr3, hc3, hb3⟩
  have HM := Lib.hid (KemenyF (cA := c3) hr3 hk3 hc3 HK.out)
  have HX3 := Lib.hid (HX2.out.keep hb3)
  have Hb3 := Lib.hid (Hb2.out.trans (hb3.mono Hb2.out.size))
  clear hk3 hr3 hc3 hb3
  go_wp2_with fail
  refine HM.out.mono ?_
  rintro e w4 ⟨g, cap, rfl, -, hcap, hG, hb4⟩
  have HG4 := Lib.hid hG
  have HX4 := Lib.hid (HX3.out.keep hb4)
  have Hb4 := Lib.hid (Hb3.out.trans (hb4.mono Hb3.out.size))
  clear hb4 hG HM
  go_wp2_with fail
  refine (FewF A n c L v _ (H.out.below Hb4.out)).mono ?_
  rintro e w5 ⟨A5, k5, c5, rfl, hk5, hr5, hc5, hb5⟩
  have HG5 := Lib.hid (HG4.out.keep hb5)
  have HM := Lib.hid (DisF (m := L 0) (cA := c5) hr5 hk5 hc5 HG5.out.ints HL2.out.symm HG5.out.cap_le HK.out HOk.out)
  have HX5 := Lib.hid (HX4.out.keep hb5)
  have Hb5 := Lib.hid (Hb4.out.trans (hb5.mono Hb4.out.size))
  clear hk5 hr5 hc5 hb5
  go_wp2_with fail
  refine Lr.use HM.out ?_
  intro w6 hb6
  have HX6 := Lib.hid (HX5.out.keep hb6)
  have Hb6 := Lib.hid (Hb5.out.trans (hb6.mono Hb5.out.size))
  clear hb6 HM HG4 HG5
  go_wp2_with fail
  refine (FewF A n c L v _ (H.out.below Hb6.out)).mono ?_
  rintro e w7 ⟨A7, k7, c7, rfl, hk7, hr7, hc7, hb7⟩
  have HX7 := Lib.hid (HX6.out.keep hb7)
  have HB7 := Lib.hid hb7
  have Hb7 := Lib.hid (Hb6.out.trans (hb7.mono Hb6.out.size))
  have HR7 := Lib.hid hr7
  have Hk7 := Lib.hid hk7
  have Hc7 := Lib.hid hc7
  clear hb7 hk7 hc7 hr7
  go_wp2_with fail
  refine (listW (HD.out.below Hb7.out)).mono ?_
  rintro e w8 ⟨A8, k8, c8, rfl, hk8, hl8, hc8, hb8⟩
  have HX8 := Lib.hid (HX7.out.keep hb8)
  have Hb8 := Lib.hid (Hb7.out.trans (hb8.mono Hb7.out.size))
  have HM := Lib.hid (DisF (cA := c7) (cap := c8) (HR7.out.keep hb8) Hk7.out Hc7.out (ownL_ints hl8) hk8 hc8 HK.out HO.out)
  clear hb8 hk8 hc8 hl8 HR7 HB7
  go_wp2_with fail
  refine Lr.use HM.out ?_
  intro w9 hb9
  have HX9 := Lib.hid (HX8.out.keep hb9)
  have Hb9 := Lib.hid (Hb8.out.trans (hb9.mono Hb8.out.size))
  clear hb9 HM HX2 HX3 HX4 HX5 HX6 HX7 HX8 HMm HOk
  have HLs : Hid (lesS n (mAll v (L 0) n) (L 0) = sumZ (fun a => lesR n (mAll v (L 0) n) a a) (L 0)) := Lib.hid rfl
  generalize lesS n (mAll v (L 0) n) (L 0) = low at *
  generalize disS n (mAll v (L 0) n) (rowF (kemL n (mAll v (L 0) n) (L 0))) (L 0) = dk at *
  generalize disS n (mAll v (L 0) n) o (L 0) = dx at *
  have hlex : decide (dx < dk) = false := decide_eq_false (by have := HLe.out; omega)
  generalize mAll v (L 0) n = T at *
  generalize hcc : L 0 = C at *
  clear hcc
  go_wp2
  go_loopw [13, 14, 84] (fun s p i wr => ∃ (a : Nat) (pl : Bool), a ≤ C ∧ i = .int .i64 a ∧ s = .int .i64 (sumZ (fun a => lesR n T a a) a) ∧ p = .bool pl ∧ (pl = true → PlA T C a) ∧ Dn w9 wr) (fun _ _ i _ => C - (intOf i).toNat)
  case atStart => exact ⟨0, true, Nat.zero_le _, rfl, rfl, rfl, fun _ a ha => absurd ha (by omega), Dn.refl _⟩
  case round =>
    obtain ⟨a, pl, ha, rfl, rfl, rfl, hPl, hD⟩ := hrel
    have HDa := Lib.hid hD
    have HPl := Lib.hid hPl
    clear hD hPl
    by_cases hla : a < C
    · have hS := sumR_bd (n := n) (T := T) hB9 HBd.out (show a ≤ C by omega) hB3
      have HSn : Hid (sumZ (fun a => lesR n T a a) (a + 1) = sumZ (fun a => lesR n T a a) a + lesR n T a a) := Lib.hid rfl
      generalize sumZ (fun a => lesR n T a a) a = S at *
      obtain ⟨hS1, hS2⟩ := hS
      obtain ⟨Y, rfl⟩ : ∃ Y, Y = wr := ⟨wr, rfl⟩
      go_wp2
      go_loopw [13, 14, 88] (fun s p j wx => ∃ (b : Nat) (q : Bool), b ≤ a ∧ j = .int .i64 b ∧ s = .int .i64 (S + lesR n T a b) ∧ p = .bool q ∧ (q = true → pl = true ∧ ∀ b', b' < b → T (5 * a + b') ≠ 0) ∧ Dn Y wx) (fun _ _ j _ => a - (intOf j).toNat)
      case atStart => exact ⟨0, pl, Nat.zero_le _, rfl, by simp [lesR, sumZ], rfl, fun h => ⟨h, fun b hb => absurd hb (by omega)⟩, Dn.refl _⟩
      case round =>
        obtain ⟨b, q, hb, rfl, rfl, rfl, hq, hD⟩ := hrel
        have HDb := Lib.hid (HDa.out.trans hD)
        have HDy := Lib.hid hD
        have HQ := Lib.hid hq
        clear hD hq
        by_cases hlb : b < a
        · obtain ⟨xb, xo, X1, x1, eX, hX1, hX2⟩ := (HX9.out.dn HDb.out).at hla
          subst eX
          obtain ⟨p1, p2, rfl, hp⟩ := hX2.at (show b < C by omega)
          have hR := lesR_bd (n := n) (T := T) (a := a) hB9 (fun b hb => HBd.out a b hla hb) (show b ≤ C by omega)
          have HRn : Hid (lesR n T a (b + 1) = lesR n T a b + lesI n (T (5 * a + b))) := Lib.hid rfl
          have ht := HBd.out a b hla (show b < C by omega)
          have hI := lesI_bd hB9 ht.1 ht.2
          have HI := Lib.hid (lesI_if ht.1 ht.2)
          rw [HI.out] at hI
          have HQ1 : Hid (∀ q' : Bool, (q' = true → q = true ∧ T (5 * a + b) ≠ 0) → q' = true → pl = true ∧ ∀ b', b' < b + 1 → T (5 * a + b') ≠ 0) := Lib.hid (fun q' h h2 => by
            obtain ⟨h3, h4⟩ := h h2
            obtain ⟨h5, h6⟩ := HQ.out h3
            refine ⟨h5, fun b' hb' => ?_⟩
            by_cases e : b' = b
            · rw [e]; exact h4
            · exact h6 b' (by omega))
          clear hX2
          generalize T (5 * a + b) = t at *
          generalize lesR n T a b = R at *
          obtain ⟨ht1, ht2⟩ := ht
          obtain ⟨hI1, hI2⟩ := hI
          obtain ⟨hR1, hR2⟩ := hR
          have hmx : 0 ≤ (n : Int) - (if t < -t then -t else t) ∧ (n : Int) - (if t < -t then -t else t) ≤ 9 := by split <;> omega
          obtain ⟨hmx1, hmx2⟩ := hmx
          go_wp2
          go_quiet (fail)
          cases q with
          | false =>
            go_wp2
            go_roundw
            case rel => exact ⟨b + 1, false, by omega, by go_num, (by rw [HRn.out, HI.out]; exact val_int (by omega)), rfl, HQ1.out false (fun h => by cases h), HDy.out.drewN _⟩
            case measure => simp [intOf]; omega
          | true =>
            by_cases ht0 : t = 0
            · have hb1 : (t != 0) = false := by rw [ht0]; rfl
              go_wp2
              go_roundw
              case rel => exact ⟨b + 1, false, by omega, by go_num, (by rw [HRn.out, HI.out]; exact val_int (by omega)), rfl, HQ1.out false (fun h => by cases h), HDy.out.drewN _⟩
              case measure => simp [intOf]; omega
            · have hb1 : (t != 0) = true := by simpa using ht0
              go_wp2
              go_roundw
              case rel => exact ⟨b + 1, true, by omega, by go_num, (by rw [HRn.out, HI.out]; exact val_int (by omega)), rfl, HQ1.out true (fun _ => ⟨rfl, ht0⟩), HDy.out.drewN _⟩
              case measure => simp [intOf]; omega
        · have hba : b = a := by omega
          rw [hba] at HQ ⊢
          clear hba hlb hb
          have HDz := HDb
          generalize HSx : S + lesR n T a a = S' at *
          have HSy := Lib.hid HSx
          clear HSx
          obtain ⟨Z, rfl⟩ : ∃ Z, Z = wr := ⟨wr, rfl⟩
          go_wp2
          go_loopw [14, 127] (fun p j wx => ∃ (b : Nat) (r : Bool), b ≤ C ∧ j = .int .i64 b ∧ p = .bool r ∧ (r = true → q = true ∧ ∀ b' d', b' < b → d' < C → ¬(0 < T (5 * a + b') ∧ 0 < T (5 * b' + d') ∧ 0 < T (5 * d' + a))) ∧ Dn Z wx) (fun _ j _ => C - (intOf j).toNat)
          case atStart => exact ⟨0, q, Nat.zero_le _, rfl, rfl, fun h => ⟨h, fun b d hb => absurd hb (by omega)⟩, Dn.refl _⟩
          case round =>
            obtain ⟨b, r, hb, rfl, rfl, hr, hD⟩ := hrel
            have HDc := Lib.hid (HDz.out.trans hD)
            have HDv := Lib.hid hD
            have HRr := Lib.hid hr
            clear hD hr
            by_cases hlb : b < C
            · obtain ⟨V, rfl⟩ : ∃ V, V = wr := ⟨wr, rfl⟩
              go_wp2
              go_loopw [14, 132] (fun p j wx => ∃ (d : Nat) (u : Bool), d ≤ C ∧ j = .int .i64 d ∧ p = .bool u ∧ (u = true → r = true ∧ ∀ d', d' < d → ¬(0 < T (5 * a + b) ∧ 0 < T (5 * b + d') ∧ 0 < T (5 * d' + a))) ∧ Dn V wx) (fun _ j _ => C - (intOf j).toNat)
              case atStart => exact ⟨0, r, Nat.zero_le _, rfl, rfl, fun h => ⟨h, fun d hd => absurd hd (by omega)⟩, Dn.refl _⟩
              case round =>
                obtain ⟨d, u, hd, rfl, rfl, hu, hD⟩ := hrel
                have HDd := Lib.hid (HDc.out.trans hD)
                have HDu := Lib.hid hD
                have HU := Lib.hid hu
                clear hD hu
                by_cases hld : d < C
                · obtain ⟨xb, xo, X1, x1, eX, hX1, hX2⟩ := (HX9.out.dn HDd.out).at hla
                  obtain ⟨yb, yo, Y1, y1, eY, hY1, hY2⟩ := (HX9.out.dn HDd.out).at hlb
                  obtain ⟨zb, zo, Z1, z1, eZ, hZ1, hZ2⟩ := (HX9.out.dn HDd.out).at hld
                  subst eX
                  injection eY with eY
                  injection eY with eY1 eY2
                  subst eY1 eY2
                  injection eZ with eZ
                  injection eZ with eZ1 eZ2
                  subst eZ1 eZ2
                  obtain ⟨p1, p2, rfl, hp⟩ := hX2.at hlb
                  obtain ⟨q1, q2, rfl, hq⟩ := hY2.at hld
                  obtain ⟨s1, s2, rfl, hs⟩ := hZ2.at hla
                  have HU1 : Hid (∀ u' : Bool, (u' = true → u = true ∧ ¬(0 < T (5 * a + b) ∧ 0 < T (5 * b + d) ∧ 0 < T (5 * d + a))) → u' = true → r = true ∧ ∀ d', d' < d + 1 → ¬(0 < T (5 * a + b) ∧ 0 < T (5 * b + d') ∧ 0 < T (5 * d' + a))) := Lib.hid (fun u' h h2 => by
                    obtain ⟨h3, h4⟩ := h h2
                    obtain ⟨h5, h6⟩ := HU.out h3
                    refine ⟨h5, fun d' hd' => ?_⟩
                    by_cases e : d' = d
                    · rw [e]; exact h4
                    · exact h6 d' (by omega))
                  clear hX2 hY2 hZ2 HU HRr HQ
                  generalize T (5 * a + b) = t1 at *
                  generalize T (5 * b + d) = t2 at *
                  generalize T (5 * d + a) = t3 at *
                  rcases Int.lt_or_le 0 t1 with h1 | h1
                  · rcases Int.lt_or_le 0 t2 with h2 | h2
                    · rcases Int.lt_or_le 0 t3 with h3 | h3
                      · go_wp2
                        go_roundw
                        case rel => exact ⟨d + 1, false, by omega, by go_num, rfl, HU1.out false (fun h => by cases h), HDu.out⟩
                        case measure => simp [intOf]; omega
                      · have h3' : decide (0 < t3) = false := decide_eq_false (by omega)
                        go_wp2
                        go_roundw
                        case rel => exact ⟨d + 1, u, by omega, by go_num, rfl, HU1.out u (fun h => ⟨h, fun hh => by omega⟩), HDu.out⟩
                        case measure => simp [intOf]; omega
                    · have h2' : decide (0 < t2) = false := decide_eq_false (by omega)
                      go_wp2
                      go_roundw
                      case rel => exact ⟨d + 1, u, by omega, by go_num, rfl, HU1.out u (fun h => ⟨h, fun hh => by omega⟩), HDu.out⟩
                      case measure => simp [intOf]; omega
                  · have h1' : decide (0 < t1) = false := decide_eq_false (by omega)
                    go_wp2
                    go_roundw
                    case rel => exact ⟨d + 1, u, by omega, by go_num, rfl, HU1.out u (fun h => ⟨h, fun hh => by omega⟩), HDu.out⟩
                    case measure => simp [intOf]; omega
                · have hdc : d = C := by omega
                  rw [hdc] at HU ⊢
                  clear hdc hld hd
                  have HN : Hid (u = true → q = true ∧ ∀ b' d', b' < b + 1 → d' < C → ¬(0 < T (5 * a + b') ∧ 0 < T (5 * b' + d') ∧ 0 < T (5 * d' + a))) := Lib.hid (fun h => by
                    obtain ⟨h1, h2⟩ := HU.out h
                    obtain ⟨h3, h4⟩ := HRr.out h1
                    refine ⟨h3, fun b' d' hb' hd' => ?_⟩
                    by_cases e : b' = b
                    · rw [e]; exact h2 d' hd'
                    · exact h4 b' d' (by omega) hd')
                  have HNw := Lib.hid (HDv.out.trans HDu.out)
                  clear HU HRr
                  go_wp2
                  go_roundw
                  case rel => exact ⟨b + 1, u, by omega, by go_num, rfl, HN.out, HNw.out⟩
                  case measure => simp [intOf]; omega
            · have hbc : b = C := by omega
              rw [hbc] at HRr ⊢
              clear hbc hlb hb
              have HN : Hid (r = true → PlA T C (a + 1)) := Lib.hid (fun h => by
                obtain ⟨h1, h2⟩ := HRr.out h
                obtain ⟨h3, h4⟩ := HQ.out h1
                intro a' ha'
                by_cases e : a' = a
                · rw [e]; exact ⟨h4, fun b d hb hd => h2 b d hb hd⟩
                · exact HPl.out h3 a' (by omega))
              have HNw := HDc
              clear HRr HQ
              go_wp2
              go_roundw
              case rel => exact ⟨a + 1, r, by omega, by go_num, by rw [HSn.out], rfl, HN.out, HNw.out⟩
              case measure => simp [intOf]; omega
    · have hac : a = C := by omega
      rw [hac] at HPl ⊢
      clear hac hla ha
      have hlow : sumZ (fun a => lesR n T a a) C = low := HLs.out.symm
      have HDz := Lib.hid (Hb9.out.trans (HDa.out.below _))
      rw [hlow]
      have hle1 : low ≤ dk := HLow.out
      clear hlow
      cases pl with
      | false =>
        go_wp2_with fail
        refine Lr.use (awake_any _) ?_
        intro wz hbz
        have Hbz := Lib.hid (HDz.out.trans (hbz.mono HDz.out.size))
        clear hbz
        go_wp2
        go_ret
        exact ⟨rfl, Hbz.out⟩
      | true =>
        have hP := HPl.out rfl
        have heq : dk = low := HEq.out (fun a b hb ha => (hP a ha).1 b hb) (fun a b d ha hb hd => (hP a ha).2 b d hb hd)
        subst heq
        have hbb := beq_t (rfl : dk = dk)
        clear hP
        go_wp2_with fail
        refine Lr.use (awake_any _) ?_
        intro wz hbz
        have Hbz := Lib.hid (HDz.out.trans (hbz.mono HDz.out.size))
        clear hbz
        go_wp2
        go_ret
        exact ⟨rfl, Hbz.out⟩

set_option maxHeartbeats 4000000 in
set_option maxRecDepth 1000000 in
theorem voteOrders_not (A : Option Addr) (n c : Nat) (L : Nat → Nat) (v : Nat → Nat → Int) (D : Option Addr) (m cd : Nat) (o : Nat → Int) (w : World) (h : ArgR w A n c L v) (hd : ArgI w D m cd o) (hok : okBal n L v = true) (hO : ordB (L 0) m o = false) :
    Calls Try.prog 8 #[.slice A n c, .slice D m cd] w fun e w' => e = .returned (.bool true) ∧ Below w.heap.size w w' := by
  have H := Lib.hid h
  have HD := Lib.hid hd
  have HK := Lib.hid hok
  have HO := Lib.hid hO
  obtain ⟨⟨hB1, hB9⟩, ⟨hB2, hB3⟩, hB4⟩ := okBal_iff.1 hok
  obtain ⟨q1, q2, q3⟩ := bal_few hok
  have HL2 : Hid (min (L 0) 11 = L 0) := Lib.hid q2
  have HMm : Hid (∀ a b, a < L 0 → b < L 0 → mrg v (L 0) a b n = mAll v (L 0) n (5 * a + b)) := Lib.hid (fun a b ha hb => (mAll_at hB3 ha hb n (fun i hi => (hB4 i hi).2)).symm)
  have HLow : Hid (lesS n (mAll v (L 0) n) (L 0) ≤ disS n (mAll v (L 0) n) (rowF (kemL n (mAll v (L 0) n) (L 0))) (L 0)) := Lib.hid (les_lower hB3 (mAll_anti hok) (bal_bd hok) (ord_of_mem (kem_mem n _ _)).2)
  have HEq : Hid ((∀ a b, b < a → a < L 0 → mAll v (L 0) n (5 * a + b) ≠ 0) → (∀ a b d, a < L 0 → b < L 0 → d < L 0 → ¬(0 < mAll v (L 0) n (5 * a + b) ∧ 0 < mAll v (L 0) n (5 * b + d) ∧ 0 < mAll v (L 0) n (5 * d + a))) → disS n (mAll v (L 0) n) (rowF (kemL n (mAll v (L 0) n) (L 0))) (L 0) = lesS n (mAll v (L 0) n) (L 0)) := Lib.hid (fun hz hno => by
    obtain ⟨o', h1, h2⟩ := les_equal (n := n) hB3 (mAll_anti hok) hz hno
    have h3 := kem_min n (mAll v (L 0) n) h1
    have h4 := les_lower hB3 (mAll_anti hok) (bal_bd hok) (ord_of_mem (kem_mem n (mAll v (L 0) n) (L 0))).2
    omega)
  have HBd : Hid (∀ a b, a < L 0 → b < L 0 → -(n : Int) ≤ mAll v (L 0) n (5 * a + b) ∧ mAll v (L 0) n (5 * a + b) ≤ n) := Lib.hid (bal_bd hok)
  have HOk := Lib.hid (ordB_kem (c := L 0) (n := n) (T := mAll v (L 0) n))

  clear h hd hok hO hB1 hB4 q1 q2 q3
  go_enter Try.func8, Try.ntmps8
  go_wp2_with fail
  refine (FewF A n c L v _ H.out).mono ?_
  rintro e w1 ⟨A1, k1, c1, rfl, hk1, hr1, hc1, hb1⟩
  have HM := Lib.hid (MarginsF (cA := c1) hr1 hk1 hc1 HK.out)
  have Hb1 := Lib.hid hb1
  clear hk1 hr1 hc1 hb1
  go_wp2_with fail
  refine HM.out.mono ?_
  rintro e w2 ⟨A2, c2, rfl, hr2, hb2⟩
  have HX2 := Lib.hid (hr2.congrV (v' := fun a b => mAll v (L 0) n (5 * a + b)) (fun a b ha hb => HMm.out a b ha hb))
  have Hb2 := Lib.hid (Hb1.out.trans (hb2.mono Hb1.out.size))
  clear hb2 HM hr2
  go_wp2_with fail
  refine (FewF A n c L v _ (H.out.below Hb2.out)).mono ?_
  rintro e w3 ⟨A3, k3, c3, rfl, hk3, hr3, hc3, hb3⟩
  have HM := Lib.hid (KemenyF (cA := c3) hr3 hk3 hc3 HK.out)
  have HX3 := Lib.hid (HX2.out.keep hb3)
  have Hb3 := Lib.hid (Hb2.out.trans (hb3.mono Hb2.out.size))
  clear hk3 hr3 hc3 hb3
  go_wp2_with fail
  refine HM.out.mono ?_
  rintro e w4 ⟨g, cap, rfl, -, hcap, hG, hb4⟩
  have HG4 := Lib.hid hG
  have HX4 := Lib.hid (HX3.out.keep hb4)
  have Hb4 := Lib.hid (Hb3.out.trans (hb4.mono Hb3.out.size))
  clear hb4 hG HM
  go_wp2_with fail
  refine (FewF A n c L v _ (H.out.below Hb4.out)).mono ?_
  rintro e w5 ⟨A5, k5, c5, rfl, hk5, hr5, hc5, hb5⟩
  have HG5 := Lib.hid (HG4.out.keep hb5)
  have HM := Lib.hid (DisF (m := L 0) (cA := c5) hr5 hk5 hc5 HG5.out.ints HL2.out.symm HG5.out.cap_le HK.out HOk.out)
  have HX5 := Lib.hid (HX4.out.keep hb5)
  have Hb5 := Lib.hid (Hb4.out.trans (hb5.mono Hb4.out.size))
  clear hk5 hr5 hc5 hb5
  go_wp2_with fail
  refine Lr.use HM.out ?_
  intro w6 hb6
  have HX6 := Lib.hid (HX5.out.keep hb6)
  have Hb6 := Lib.hid (Hb5.out.trans (hb6.mono Hb5.out.size))
  clear hb6 HM HG4 HG5
  go_wp2_with fail
  refine (FewF A n c L v _ (H.out.below Hb6.out)).mono ?_
  rintro e w7 ⟨A7, k7, c7, rfl, hk7, hr7, hc7, hb7⟩
  have HX7 := Lib.hid (HX6.out.keep hb7)
  have HB7 := Lib.hid hb7
  have Hb7 := Lib.hid (Hb6.out.trans (hb7.mono Hb6.out.size))
  have HR7 := Lib.hid hr7
  have Hk7 := Lib.hid hk7
  have Hc7 := Lib.hid hc7
  clear hb7 hk7 hc7 hr7
  go_wp2_with fail
  refine (listW (HD.out.below Hb7.out)).mono ?_
  rintro e w8 ⟨A8, k8, c8, rfl, hk8, hl8, hc8, hb8⟩
  have HX8 := Lib.hid (HX7.out.keep hb8)
  have Hb8 := Lib.hid (Hb7.out.trans (hb8.mono Hb7.out.size))
  have HM := Lib.hid (DisFbad (cA := c7) (cap := c8) (HR7.out.keep hb8) Hk7.out Hc7.out (ownL_ints hl8) hk8 hc8 HK.out HO.out)
  clear hb8 hk8 hc8 hl8 HR7 HB7
  go_wp2_with fail
  refine Lr.use HM.out ?_
  intro w9 hb9
  have HX9 := Lib.hid (HX8.out.keep hb9)
  have Hb9 := Lib.hid (Hb8.out.trans (hb9.mono Hb8.out.size))
  clear hb9 HM HX2 HX3 HX4 HX5 HX6 HX7 HX8 HMm HOk
  have HLs : Hid (lesS n (mAll v (L 0) n) (L 0) = sumZ (fun a => lesR n (mAll v (L 0) n) a a) (L 0)) := Lib.hid rfl
  generalize lesS n (mAll v (L 0) n) (L 0) = low at *
  generalize disS n (mAll v (L 0) n) (rowF (kemL n (mAll v (L 0) n) (L 0))) (L 0) = dk at *
  generalize mAll v (L 0) n = T at *
  generalize hcc : L 0 = C at *
  clear hcc
  go_wp2
  go_loopw [13, 14, 84] (fun s p i wr => ∃ (a : Nat) (pl : Bool), a ≤ C ∧ i = .int .i64 a ∧ s = .int .i64 (sumZ (fun a => lesR n T a a) a) ∧ p = .bool pl ∧ (pl = true → PlA T C a) ∧ Dn w9 wr) (fun _ _ i _ => C - (intOf i).toNat)
  case atStart => exact ⟨0, true, Nat.zero_le _, rfl, rfl, rfl, fun _ a ha => absurd ha (by omega), Dn.refl _⟩
  case round =>
    obtain ⟨a, pl, ha, rfl, rfl, rfl, hPl, hD⟩ := hrel
    have HDa := Lib.hid hD
    have HPl := Lib.hid hPl
    clear hD hPl
    by_cases hla : a < C
    · have hS := sumR_bd (n := n) (T := T) hB9 HBd.out (show a ≤ C by omega) hB3
      have HSn : Hid (sumZ (fun a => lesR n T a a) (a + 1) = sumZ (fun a => lesR n T a a) a + lesR n T a a) := Lib.hid rfl
      generalize sumZ (fun a => lesR n T a a) a = S at *
      obtain ⟨hS1, hS2⟩ := hS
      obtain ⟨Y, rfl⟩ : ∃ Y, Y = wr := ⟨wr, rfl⟩
      go_wp2
      go_loopw [13, 14, 88] (fun s p j wx => ∃ (b : Nat) (q : Bool), b ≤ a ∧ j = .int .i64 b ∧ s = .int .i64 (S + lesR n T a b) ∧ p = .bool q ∧ (q = true → pl = true ∧ ∀ b', b' < b → T (5 * a + b') ≠ 0) ∧ Dn Y wx) (fun _ _ j _ => a - (intOf j).toNat)
      case atStart => exact ⟨0, pl, Nat.zero_le _, rfl, by simp [lesR, sumZ], rfl, fun h => ⟨h, fun b hb => absurd hb (by omega)⟩, Dn.refl _⟩
      case round =>
        obtain ⟨b, q, hb, rfl, rfl, rfl, hq, hD⟩ := hrel
        have HDb := Lib.hid (HDa.out.trans hD)
        have HDy := Lib.hid hD
        have HQ := Lib.hid hq
        clear hD hq
        by_cases hlb : b < a
        · obtain ⟨xb, xo, X1, x1, eX, hX1, hX2⟩ := (HX9.out.dn HDb.out).at hla
          subst eX
          obtain ⟨p1, p2, rfl, hp⟩ := hX2.at (show b < C by omega)
          have hR := lesR_bd (n := n) (T := T) (a := a) hB9 (fun b hb => HBd.out a b hla hb) (show b ≤ C by omega)
          have HRn : Hid (lesR n T a (b + 1) = lesR n T a b + lesI n (T (5 * a + b))) := Lib.hid rfl
          have ht := HBd.out a b hla (show b < C by omega)
          have hI := lesI_bd hB9 ht.1 ht.2
          have HI := Lib.hid (lesI_if ht.1 ht.2)
          rw [HI.out] at hI
          have HQ1 : Hid (∀ q' : Bool, (q' = true → q = true ∧ T (5 * a + b) ≠ 0) → q' = true → pl = true ∧ ∀ b', b' < b + 1 → T (5 * a + b') ≠ 0) := Lib.hid (fun q' h h2 => by
            obtain ⟨h3, h4⟩ := h h2
            obtain ⟨h5, h6⟩ := HQ.out h3
            refine ⟨h5, fun b' hb' => ?_⟩
            by_cases e : b' = b
            · rw [e]; exact h4
            · exact h6 b' (by omega))
          clear hX2
          generalize T (5 * a + b) = t at *
          generalize lesR n T a b = R at *
          obtain ⟨ht1, ht2⟩ := ht
          obtain ⟨hI1, hI2⟩ := hI
          obtain ⟨hR1, hR2⟩ := hR
          have hmx : 0 ≤ (n : Int) - (if t < -t then -t else t) ∧ (n : Int) - (if t < -t then -t else t) ≤ 9 := by split <;> omega
          obtain ⟨hmx1, hmx2⟩ := hmx
          go_wp2
          go_quiet (fail)
          cases q with
          | false =>
            go_wp2
            go_roundw
            case rel => exact ⟨b + 1, false, by omega, by go_num, (by rw [HRn.out, HI.out]; exact val_int (by omega)), rfl, HQ1.out false (fun h => by cases h), HDy.out.drewN _⟩
            case measure => simp [intOf]; omega
          | true =>
            by_cases ht0 : t = 0
            · have hb1 : (t != 0) = false := by rw [ht0]; rfl
              go_wp2
              go_roundw
              case rel => exact ⟨b + 1, false, by omega, by go_num, (by rw [HRn.out, HI.out]; exact val_int (by omega)), rfl, HQ1.out false (fun h => by cases h), HDy.out.drewN _⟩
              case measure => simp [intOf]; omega
            · have hb1 : (t != 0) = true := by simpa using ht0
              go_wp2
              go_roundw
              case rel => exact ⟨b + 1, true, by omega, by go_num, (by rw [HRn.out, HI.out]; exact val_int (by omega)), rfl, HQ1.out true (fun _ => ⟨rfl, ht0⟩), HDy.out.drewN _⟩
              case measure => simp [intOf]; omega
        · have hba : b = a := by omega
          rw [hba] at HQ ⊢
          clear hba hlb hb
          have HDz := HDb
          generalize HSx : S + lesR n T a a = S' at *
          have HSy := Lib.hid HSx
          clear HSx
          obtain ⟨Z, rfl⟩ : ∃ Z, Z = wr := ⟨wr, rfl⟩
          go_wp2
          go_loopw [14, 127] (fun p j wx => ∃ (b : Nat) (r : Bool), b ≤ C ∧ j = .int .i64 b ∧ p = .bool r ∧ (r = true → q = true ∧ ∀ b' d', b' < b → d' < C → ¬(0 < T (5 * a + b') ∧ 0 < T (5 * b' + d') ∧ 0 < T (5 * d' + a))) ∧ Dn Z wx) (fun _ j _ => C - (intOf j).toNat)
          case atStart => exact ⟨0, q, Nat.zero_le _, rfl, rfl, fun h => ⟨h, fun b d hb => absurd hb (by omega)⟩, Dn.refl _⟩
          case round =>
            obtain ⟨b, r, hb, rfl, rfl, hr, hD⟩ := hrel
            have HDc := Lib.hid (HDz.out.trans hD)
            have HDv := Lib.hid hD
            have HRr := Lib.hid hr
            clear hD hr
            by_cases hlb : b < C
            · obtain ⟨V, rfl⟩ : ∃ V, V = wr := ⟨wr, rfl⟩
              go_wp2
              go_loopw [14, 132] (fun p j wx => ∃ (d : Nat) (u : Bool), d ≤ C ∧ j = .int .i64 d ∧ p = .bool u ∧ (u = true → r = true ∧ ∀ d', d' < d → ¬(0 < T (5 * a + b) ∧ 0 < T (5 * b + d') ∧ 0 < T (5 * d' + a))) ∧ Dn V wx) (fun _ j _ => C - (intOf j).toNat)
              case atStart => exact ⟨0, r, Nat.zero_le _, rfl, rfl, fun h => ⟨h, fun d hd => absurd hd (by omega)⟩, Dn.refl _⟩
              case round =>
                obtain ⟨d, u, hd, rfl, rfl, hu, hD⟩ := hrel
                have HDd := Lib.hid (HDc.out.trans hD)
                have HDu := Lib.hid hD
                have HU := Lib.hid hu
                clear hD hu
                by_cases hld : d < C
                · obtain ⟨xb, xo, X1, x1, eX, hX1, hX2⟩ := (HX9.out.dn HDd.out).at hla
                  obtain ⟨yb, yo, Y1, y1, eY, hY1, hY2⟩ := (HX9.out.dn HDd.out).at hlb
                  obtain ⟨zb, zo, Z1, z1, eZ, hZ1, hZ2⟩ := (HX9.out.dn HDd.out).at hld
                  subst eX
                  injection eY with eY
                  injection eY with eY1 eY2
                  subst eY1 eY2
                  injection eZ with eZ
                  injection eZ with eZ1 eZ2
                  subst eZ1 eZ2
                  obtain ⟨p1, p2, rfl, hp⟩ := hX2.at hlb
                  obtain ⟨q1, q2, rfl, hq⟩ := hY2.at hld
                  obtain ⟨s1, s2, rfl, hs⟩ := hZ2.at hla
                  have HU1 : Hid (∀ u' : Bool, (u' = true → u = true ∧ ¬(0 < T (5 * a + b) ∧ 0 < T (5 * b + d) ∧ 0 < T (5 * d + a))) → u' = true → r = true ∧ ∀ d', d' < d + 1 → ¬(0 < T (5 * a + b) ∧ 0 < T (5 * b + d') ∧ 0 < T (5 * d' + a))) := Lib.hid (fun u' h h2 => by
                    obtain ⟨h3, h4⟩ := h h2
                    obtain ⟨h5, h6⟩ := HU.out h3
                    refine ⟨h5, fun d' hd' => ?_⟩
                    by_cases e : d' = d
                    · rw [e]; exact h4
                    · exact h6 d' (by omega))
                  clear hX2 hY2 hZ2 HU HRr HQ
                  generalize T (5 * a + b) = t1 at *
                  generalize T (5 * b + d) = t2 at *
                  generalize T (5 * d + a) = t3 at *
                  rcases Int.lt_or_le 0 t1 with h1 | h1
                  · rcases Int.lt_or_le 0 t2 with h2 | h2
                    · rcases Int.lt_or_le 0 t3 with h3 | h3
                      · go_wp2
                        go_roundw
                        case rel => exact ⟨d + 1, false, by omega, by go_num, rfl, HU1.out false (fun h => by cases h), HDu.out⟩
                        case measure => simp [intOf]; omega
                      · have h3' : decide (0 < t3) = false := decide_eq_false (by omega)
                        go_wp2
                        go_roundw
                        case rel => exact ⟨d + 1, u, by omega, by go_num, rfl, HU1.out u (fun h => ⟨h, fun hh => by omega⟩), HDu.out⟩
                        case measure => simp [intOf]; omega
                    · have h2' : decide (0 < t2) = false := decide_eq_false (by omega)
                      go_wp2
                      go_roundw
                      case rel => exact ⟨d + 1, u, by omega, by go_num, rfl, HU1.out u (fun h => ⟨h, fun hh => by omega⟩), HDu.out⟩
                      case measure => simp [intOf]; omega
                  · have h1' : decide (0 < t1) = false := decide_eq_false (by omega)
                    go_wp2
                    go_roundw
                    case rel => exact ⟨d + 1, u, by omega, by go_num, rfl, HU1.out u (fun h => ⟨h, fun hh => by omega⟩), HDu.out⟩
                    case measure => simp [intOf]; omega
                · have hdc : d = C := by omega
                  rw [hdc] at HU ⊢
                  clear hdc hld hd
                  have HN : Hid (u = true → q = true ∧ ∀ b' d', b' < b + 1 → d' < C → ¬(0 < T (5 * a + b') ∧ 0 < T (5 * b' + d') ∧ 0 < T (5 * d' + a))) := Lib.hid (fun h => by
                    obtain ⟨h1, h2⟩ := HU.out h
                    obtain ⟨h3, h4⟩ := HRr.out h1
                    refine ⟨h3, fun b' d' hb' hd' => ?_⟩
                    by_cases e : b' = b
                    · rw [e]; exact h2 d' hd'
                    · exact h4 b' d' (by omega) hd')
                  have HNw := Lib.hid (HDv.out.trans HDu.out)
                  clear HU HRr
                  go_wp2
                  go_roundw
                  case rel => exact ⟨b + 1, u, by omega, by go_num, rfl, HN.out, HNw.out⟩
                  case measure => simp [intOf]; omega
            · have hbc : b = C := by omega
              rw [hbc] at HRr ⊢
              clear hbc hlb hb
              have HN : Hid (r = true → PlA T C (a + 1)) := Lib.hid (fun h => by
                obtain ⟨h1, h2⟩ := HRr.out h
                obtain ⟨h3, h4⟩ := HQ.out h1
                intro a' ha'
                by_cases e : a' = a
                · rw [e]; exact ⟨h4, fun b d hb hd => h2 b d hb hd⟩
                · exact HPl.out h3 a' (by omega))
              have HNw := HDc
              clear HRr HQ
              go_wp2
              go_roundw
              case rel => exact ⟨a + 1, r, by omega, by go_num, by rw [HSn.out], rfl, HN.out, HNw.out⟩
              case measure => simp [intOf]; omega
    · have hac : a = C := by omega
      rw [hac] at HPl ⊢
      clear hac hla ha
      have hlow : sumZ (fun a => lesR n T a a) C = low := HLs.out.symm
      have HDz := Lib.hid (Hb9.out.trans (HDa.out.below _))
      rw [hlow]
      have hle1 : low ≤ dk := HLow.out
      clear hlow
      cases pl with
      | false =>
        go_wp2_with fail
        refine Lr.use (awake_any _) ?_
        intro wz hbz
        have Hbz := Lib.hid (HDz.out.trans (hbz.mono HDz.out.size))
        clear hbz
        go_wp2
        go_ret
        exact ⟨rfl, Hbz.out⟩
      | true =>
        have hP := HPl.out rfl
        have heq : dk = low := HEq.out (fun a b hb ha => (hP a ha).1 b hb) (fun a b d ha hb hd => (hP a ha).2 b d hb hd)
        subst heq
        have hbb := beq_t (rfl : dk = dk)
        clear hP
        go_wp2_with fail
        refine Lr.use (awake_any _) ?_
        intro wz hbz
        have Hbz := Lib.hid (HDz.out.trans (hbz.mono HDz.out.size))
        clear hbz
        go_wp2
        go_ret
        exact ⟨rfl, Hbz.out⟩

theorem voteOrders_walk (A : Option Addr) (n c : Nat) (L : Nat → Nat) (v : Nat → Nat → Int) (D : Option Addr) (m cd : Nat) (o : Nat → Int) (w : World) (h : ArgR w A n c L v) (hd : ArgI w D m cd o) :
    Calls Try.prog 8 #[.slice A n c, .slice D m cd] w fun e w' => e = .returned (.bool true) ∧ Below w.heap.size w w' := by
  cases hok : okBal n L v with
  | false => exact voteOrders_bad A n c L v D m cd o w h hok
  | true =>
    cases hO : ordB (L 0) m o with
    | false => exact voteOrders_not A n c L v D m cd o w h hd hok hO
    | true => exact voteOrders_ord A n c L v D m cd o w h hd hok hO
end Go.Proofs.Ytbaedcpbcelmpaa
