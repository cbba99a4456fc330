/- The law VoteTwice, walked. -/
import Derived.Test.YtbaedcpbcelmpaaDc
namespace Go.Proofs.Ytbaedcpbcelmpaa
open Go.RowKit

set_option maxHeartbeats 4000000 in
set_option maxRecDepth 1000000 in
theorem voteTwice_fine (A : Option Addr) (n c : Nat) (L : Nat → Nat) (v : Nat → Nat → Int) (w : World) (h : ArgR w A n c L v) (hok : okBal n L v = true) (h4 : n ≤ 4) :
    Calls Try.prog 12 #[.slice A n c] w fun e w' => e = .returned (.bool true) ∧ Below w.heap.size w w' := by
  have H := Lib.hid h
  have HK := Lib.hid hok
  obtain ⟨⟨hB1, hB9⟩, ⟨hB2, hB3⟩, hB4⟩ := okBal_iff.1 hok
  have HL0 : Hid (∀ i, i < n → L i = L 0) := Lib.hid (fun i hi => (hB4 i hi).1)
  have HV : Hid (∀ w' : World, Below w.heap.size w w' → Ro 18 #[.slice A n c] w' (.bool true)) := Lib.hid (fun w' hb => by
    have := validR_any A n c L v w' (H.out.below hb)
    rwa [HK.out] at this)
  obtain ⟨s0, hs0⟩ : ∃ s0, IsBst (mAll v (L 0) n) (L 0) s0 := bst_exists (T := mAll v (L 0) n) hB2 hB3
  have HS0 := Lib.hid hs0
  clear h hok hB4 hs0
  go_enter Try.func12, Try.ntmps12
  go_wp2_with fail
  refine Ro.use (HV.out _ (Below.refl _ _)) ?_
  intro w1 hd1
  have Hb1 := Lib.hid (hd1.below w.heap.size)
  clear hd1 HV
  have hd4 : decide ((4 : Int) < (n : Int)) = false := decide_eq_false (by omega)
  go_wp2_with fail
  refine (fewS_any A n c L v _ (H.out.below Hb1.out)).mono ?_
  rintro e w2 ⟨y2, rfl, hS2, hb2⟩
  rw [Nat.min_eq_left (show n ≤ 11 by omega)] at hS2
  have HS2 := Lib.hid hS2.own
  have Hb2 := Lib.hid (Hb1.out.trans (hb2.mono Hb1.out.size))
  have hs12 := hb2.size
  have HB12 := Lib.hid hb2
  obtain ⟨A2, c2, ey, -⟩ := hS2.own.rowsKc
  subst ey
  clear hS2 hb2
  go_wp2_with fail
  refine (fewS_any A n c L v _ (H.out.below Hb2.out)).mono ?_
  rintro e w3 ⟨y3, rfl, hS3, hb3⟩
  rw [Nat.min_eq_left (show n ≤ 11 by omega)] at hS3
  have HS3 := Lib.hid hS3.own
  have HS23 := Lib.hid (HS2.out.belowR hb3)
  have Hb3 := Lib.hid (Hb2.out.trans (hb3.mono Hb2.out.size))
  have HB13 := Lib.hid (HB12.out.trans (hb3.mono HB12.out.size))
  have hs23 := hb3.size
  have hs01 := Hb1.out.size
  obtain ⟨A3, c3, ey, -⟩ := hS3.own.rowsKc
  subst ey
  clear hS3 hb3 HS2
  have HTw : Hid (∀ i, i < n + n → (fun i => (fun i => if i < n then (fun i => min (L i) 11) i else (fun i => min (L i) 11) (i - n)) (n + n - 1 - i)) i = (fun _ => L 0) i ∧ (fun i => (fun i => if i < n then v i else v (i - n)) (n + n - 1 - i)) i = dbV n v i) := Lib.hid (fun i hi => ⟨by
    show (if n + n - 1 - i < n then min (L (n + n - 1 - i)) 11 else min (L (n + n - 1 - i - n)) 11) = L 0
    by_cases e : n + n - 1 - i < n
    · rw [if_pos e, HL0.out _ e]; omega
    · rw [if_neg e, HL0.out _ (show n + n - 1 - i - n < n by omega)]; omega, by
    unfold dbV dbW
    rw [show 2 * n = n + n by omega]⟩)
  go_wp2_with (at_builtin; go_loud (refine wpList_append_rows rfl (.tmp 43) (.tmp 45) rfl w1.heap.size w2.heap.size _ _ n n _ _ _ _ rfl HS23.out rfl HS3.out hs12 (by omega) (by omega) (by omega) ?_))
  intro v4 w4 hO4 hg4
  have HO4 := Lib.hid hO4
  have Hb4 := Lib.hid (HB13.out.grown hg4 (by omega) HS23.out.low)
  have hs34 := hg4.size
  clear hg4 hO4 HS3 HS23 HB13
  obtain ⟨G, cG, rfl, hGb, hNc, hrev⟩ := HO4.out.rev (by omega) (by omega)
  have HRev := Lib.hid hrev
  clear hrev HO4
  go_wp2_with fail
  refine HRev.out.mono ?_
  rintro e w5 ⟨⟨u, rfl⟩, hO5, hE5⟩
  have Hb5 := Lib.hid (Hb1.out.trans ((Hb4.out.trans (hE5.below hGb (by omega))).mono hs01))
  obtain ⟨hR5, hNG⟩ := hO5.rowsT (L' := fun _ => L 0) (v' := dbV n v) HTw.out
  have HR5 := Lib.hid hR5
  clear hR5 hO5 hE5 HRev Hb4 HTw
  go_wp2_with fail
  refine (FewF A n c L v _ (H.out.below Hb5.out)).mono ?_
  rintro e w6 ⟨A6, k6, c6, rfl, hk6, hr6, hc6, hb6⟩
  have HM := Lib.hid (MarginsF (cA := c6) hr6 hk6 hc6 HK.out)
  have HR6 := Lib.hid (HR5.out.keep hb6)
  clear HR5
  have Hb6 := Lib.hid (Hb5.out.trans (hb6.mono Hb5.out.size))
  clear hk6 hr6 hc6 hb6
  go_wp2_with fail
  refine HM.out.mono ?_
  rintro e w7 ⟨A7, c7, rfl, hr7, hb7⟩
  have HR7 := Lib.hid (HR6.out.keep hb7)
  clear HR6
  have HMX7 := Lib.hid hr7
  have Hb7 := Lib.hid (Hb6.out.trans (hb7.mono Hb6.out.size))
  clear hb7 hr7 HM
  have HM := Lib.hid (MarginsB (N := n + n) (cA := cG) HK.out (by omega) (by omega) HR7.out hNG)
  go_wp2_with fail
  refine HM.out.mono ?_
  rintro e w8 ⟨A8, c8, rfl, hr8, hb8⟩
  have HR8 := Lib.hid (HR7.out.keep hb8)
  have HMX8 := Lib.hid (HMX7.out.keep hb8)
  clear HR7 HMX7
  have HMY8 := Lib.hid hr8
  have Hb8 := Lib.hid (Hb7.out.trans (hb8.mono Hb7.out.size))
  clear hb8 hr8 HM
  go_wp2_with fail
  refine (FewF A n c L v _ (H.out.below Hb8.out)).mono ?_
  rintro e w9 ⟨A9, k9, c9, rfl, hk9, hr9, hc9, hb9⟩
  have HM := Lib.hid (WidthsF (cA := c9) hr9 hk9 hc9 HK.out)
  have HR9 := Lib.hid (HR8.out.keep hb9)
  have HMX9 := Lib.hid (HMX8.out.keep hb9)
  have HMY9 := Lib.hid (HMY8.out.keep hb9)
  clear HR8 HMX8 HMY8
  have Hb9 := Lib.hid (Hb8.out.trans (hb9.mono Hb8.out.size))
  clear hk9 hr9 hc9 hb9
  go_wp2_with fail
  refine HM.out.mono ?_
  rintro e w10 ⟨A10, c10, rfl, hr10, hb10⟩
  have HR10 := Lib.hid (HR9.out.keep hb10)
  have HMX10 := Lib.hid (HMX9.out.keep hb10)
  have HMY10 := Lib.hid (HMY9.out.keep hb10)
  clear HR9 HMX9 HMY9
  have HWX10 := Lib.hid hr10
  have Hb10 := Lib.hid (Hb9.out.trans (hb10.mono Hb9.out.size))
  clear hb10 hr10 HM
  have HM := Lib.hid (WidthsB (N := n + n) (cA := cG) HK.out (by omega) (by omega) HR10.out hNG)
  go_wp2_with fail
  refine HM.out.mono ?_
  rintro e w11 ⟨A11, c11, rfl, hr11, hb11⟩
  have HR11 := Lib.hid (HR10.out.keep hb11)
  have HMX11 := Lib.hid (HMX10.out.keep hb11)
  have HMY11 := Lib.hid (HMY10.out.keep hb11)
  have HWX11 := Lib.hid (HWX10.out.keep hb11)
  clear HR10 HMX10 HMY10 HWX10
  have HWY11 := Lib.hid hr11
  have Hb11 := Lib.hid (Hb10.out.trans (hb11.mono Hb10.out.size))
  clear hb11 hr11 HM
  go_wp2_with fail
  refine (FewF A n c L v _ (H.out.below Hb11.out)).mono ?_
  rintro e w12 ⟨A12, k12, c12, rfl, hk12, hr12, hc12, hb12⟩
  have HM := Lib.hid (KemenyF (cA := c12) hr12 hk12 hc12 HK.out)
  have HR12 := Lib.hid (HR11.out.keep hb12)
  have HMX12 := Lib.hid (HMX11.out.keep hb12)
  have HMY12 := Lib.hid (HMY11.out.keep hb12)
  have HWX12 := Lib.hid (HWX11.out.keep hb12)
  have HWY12 := Lib.hid (HWY11.out.keep hb12)
  clear HR11 HMX11 HMY11 HWX11 HWY11
  have Hb12 := Lib.hid (Hb11.out.trans (hb12.mono Hb11.out.size))
  clear hk12 hr12 hc12 hb12
  go_wp2_with fail
  refine HM.out.mono ?_
  rintro e w13 ⟨g13, c13, rfl, -, -, hr13, hb13⟩
  have HR13 := Lib.hid (HR12.out.keep hb13)
  have HMX13 := Lib.hid (HMX12.out.keep hb13)
  have HMY13 := Lib.hid (HMY12.out.keep hb13)
  have HWX13 := Lib.hid (HWX12.out.keep hb13)
  have HWY13 := Lib.hid (HWY12.out.keep hb13)
  clear HR12 HMX12 HMY12 HWX12 HWY12
  have HKX13 := Lib.hid hr13
  have Hb13 := Lib.hid (Hb12.out.trans (hb13.mono Hb12.out.size))
  clear hb13 hr13 HM
  have HM := Lib.hid (KemenyB (N := n + n) (cA := cG) HK.out (by omega) (by omega) HR13.out hNG)
  go_wp2_with fail
  refine HM.out.mono ?_
  rintro e w14 ⟨g14, c14, rfl, -, -, hr14, hb14⟩
  have HR14 := Lib.hid (HR13.out.keep hb14)
  have HMX14 := Lib.hid (HMX13.out.keep hb14)
  have HMY14 := Lib.hid (HMY13.out.keep hb14)
  have HWX14 := Lib.hid (HWX13.out.keep hb14)
  have HWY14 := Lib.hid (HWY13.out.keep hb14)
  have HKX14 := Lib.hid (HKX13.out.keep hb14)
  clear HR13 HMX13 HMY13 HWX13 HWY13 HKX13
  have HKY14 := Lib.hid hr14
  have Hb14 := Lib.hid (Hb13.out.trans (hb14.mono Hb13.out.size))
  clear hb14 hr14 HM
  go_wp2_with fail
  refine (FewF A n c L v _ (H.out.below Hb14.out)).mono ?_
  rintro e w15 ⟨A15, k15, c15, rfl, hk15, hr15, hc15, hb15⟩
  have HM := Lib.hid (BestF (cA := c15) hr15 hk15 hc15 HK.out HS0.out)
  have HR15 := Lib.hid (HR14.out.keep hb15)
  have HMX15 := Lib.hid (HMX14.out.keep hb15)
  have HMY15 := Lib.hid (HMY14.out.keep hb15)
  have HWX15 := Lib.hid (HWX14.out.keep hb15)
  have HWY15 := Lib.hid (HWY14.out.keep hb15)
  have HKX15 := Lib.hid (HKX14.out.keep hb15)
  have HKY15 := Lib.hid (HKY14.out.keep hb15)
  clear HR14 HMX14 HMY14 HWX14 HWY14 HKX14 HKY14
  have Hb15 := Lib.hid (Hb14.out.trans (hb15.mono Hb14.out.size))
  clear hk15 hr15 hc15 hb15
  go_wp2_with fail
  refine Lr.use HM.out ?_
  intro w16 hb16
  have HR16 := Lib.hid (HR15.out.keep hb16)
  have HMX16 := Lib.hid (HMX15.out.keep hb16)
  have HMY16 := Lib.hid (HMY15.out.keep hb16)
  have HWX16 := Lib.hid (HWX15.out.keep hb16)
  have HWY16 := Lib.hid (HWY15.out.keep hb16)
  have HKX16 := Lib.hid (HKX15.out.keep hb16)
  have HKY16 := Lib.hid (HKY15.out.keep hb16)
  clear HR15 HMX15 HMY15 HWX15 HWY15 HKX15 HKY15
  have Hb16 := Lib.hid (Hb15.out.trans (hb16.mono Hb15.out.size))
  clear hb16 HM
  have HM := Lib.hid (BestB (N := n + n) (cA := cG) HK.out (by omega) (by omega) HR16.out hNG HS0.out)
  go_wp2_with fail
  refine Lr.use HM.out ?_
  intro w17 hb17
  have HR17 := Lib.hid (HR16.out.keep hb17)
  have HMX17 := Lib.hid (HMX16.out.keep hb17)
  have HMY17 := Lib.hid (HMY16.out.keep hb17)
  have HWX17 := Lib.hid (HWX16.out.keep hb17)
  have HWY17 := Lib.hid (HWY16.out.keep hb17)
  have HKX17 := Lib.hid (HKX16.out.keep hb17)
  have HKY17 := Lib.hid (HKY16.out.keep hb17)
  clear HR16 HMX16 HMY16 HWX16 HWY16 HKX16 HKY16
  have Hb17 := Lib.hid (Hb16.out.trans (hb17.mono Hb16.out.size))
  clear hb17 HM
  go_wp2_with fail
  refine (FewF A n c L v _ (H.out.below Hb17.out)).mono ?_
  rintro e w18 ⟨A18, k18, c18, rfl, hk18, hr18, hc18, hb18⟩
  have HM := Lib.hid (AxisF (cA := c18) hr18 hk18 hc18 HK.out)
  have HR18 := Lib.hid (HR17.out.keep hb18)
  have HMX18 := Lib.hid (HMX17.out.keep hb18)
  have HMY18 := Lib.hid (HMY17.out.keep hb18)
  have HWX18 := Lib.hid (HWX17.out.keep hb18)
  have HWY18 := Lib.hid (HWY17.out.keep hb18)
  have HKX18 := Lib.hid (HKX17.out.keep hb18)
  have HKY18 := Lib.hid (HKY17.out.keep hb18)
  clear HR17 HMX17 HMY17 HWX17 HWY17 HKX17 HKY17
  have Hb18 := Lib.hid (Hb17.out.trans (hb18.mono Hb17.out.size))
  clear hk18 hr18 hc18 hb18
  cases hxa : axF n L v (List.range (L 0)) with
  | none =>
    go_wp2_with fail
    refine HM.out.mono ?_
    rintro e w19 hax
    rcases hax with ⟨g19, x19, hx19, rfl, -, hr19, hb19⟩ | ⟨hx19, rfl, hb19⟩
    case inl => rw [hxa] at hx19; cases hx19
    have HR19 := Lib.hid (HR18.out.keep hb19)
    have HMX19 := Lib.hid (HMX18.out.keep hb19)
    have HMY19 := Lib.hid (HMY18.out.keep hb19)
    have HWX19 := Lib.hid (HWX18.out.keep hb19)
    have HWY19 := Lib.hid (HWY18.out.keep hb19)
    have HKX19 := Lib.hid (HKX18.out.keep hb19)
    have HKY19 := Lib.hid (HKY18.out.keep hb19)
    clear HR18 HMX18 HMY18 HWX18 HWY18 HKX18 HKY18
    have Hb19 := Lib.hid (Hb18.out.trans (hb19.mono Hb18.out.size))
    clear hb19 HM hx19
    have HM := Lib.hid (AxisB (N := n + n) (cA := cG) HK.out (by omega) (by omega) HR19.out hNG)
    go_wp2_with fail
    refine HM.out.mono ?_
    rintro e w20 hax
    rcases hax with ⟨g20, x20, hx20, rfl, -, hr20, hb20⟩ | ⟨hx20, rfl, hb20⟩
    case inl => rw [hxa] at hx20; cases hx20
    have HR20 := Lib.hid (HR19.out.keep hb20)
    have HMX20 := Lib.hid (HMX19.out.keep hb20)
    have HMY20 := Lib.hid (HMY19.out.keep hb20)
    have HWX20 := Lib.hid (HWX19.out.keep hb20)
    have HWY20 := Lib.hid (HWY19.out.keep hb20)
    have HKX20 := Lib.hid (HKX19.out.keep hb20)
    have HKY20 := Lib.hid (HKY19.out.keep hb20)
    clear HR19 HMX19 HMY19 HWX19 HWY19 HKX19 HKY19
    have Hb20 := Lib.hid (Hb19.out.trans (hb20.mono Hb19.out.size))
    clear hb20 HM hx20
    have HE1 : Hid (∀ w' : World, Below w20.heap.size w20 w' → Ro 22 #[.slice (some ⟨g13, 0, none⟩) (L 0) c13, .slice (some ⟨g14, 0, none⟩) (L 0) c14] w' (.bool true)) := Lib.hid (fun w' hb => by
      have := equal_any (some ⟨g13, 0, none⟩) (some ⟨g14, 0, none⟩) (L 0) (L 0) c13 c14 _ _ w' (HKX20.out.keep hb).ints (HKY20.out.keep hb).ints (by omega) (by omega)
      rwa [eqB_one] at this)
    have HE2 : Hid (∀ w' : World, Below w20.heap.size w20 w' → Ro 22 #[.slice none 0 0, .slice none 0 0] w' (.bool true)) := Lib.hid (fun w' hb => by
      have := equal_any none none 0 0 0 0 (fun _ => 0) (fun _ => 0) w' (fun h => absurd h (by omega)) (fun h => absurd h (by omega)) (by omega) (by omega)
      rwa [eqB_one] at this)
    have HMm : Hid (∀ a b, a < L 0 → b < L 0 → mrg v (L 0) a b n = mAll v (L 0) n (5 * a + b)) := Lib.hid (fun a b ha hb => (mAll_at hB3 ha hb n (fun i hi => ((okBal_iff.1 HK.out).2.2 i hi).2)).symm)
    have HMX20 := Lib.hid (HMX20.out.congrV (v' := fun a b => mAll v (L 0) n (5 * a + b)) (fun a b ha hb => HMm.out a b ha hb))
    have HBd : Hid (∀ a b, a < L 0 → b < L 0 → -9 ≤ mAll v (L 0) n (5 * a + b) ∧ mAll v (L 0) n (5 * a + b) ≤ 9) := Lib.hid (fun a b ha hb => by have := bal_bd HK.out a b ha hb; omega)
    have HUd : Hid (∀ a b, a < L 0 → b < L 0 → -9 ≤ wT (L 0) (mAll v (L 0) n) (L 0) (5 * a + b) ∧ wT (L 0) (mAll v (L 0) n) (L 0) (5 * a + b) ≤ 9) := Lib.hid (inB_T (T := mAll v (L 0) n) HBd.out (L 0) (Nat.le_refl _))
    clear HMm
    have hdk := dis_bd hB3 hB9 (bal_bd HK.out) (ord_of_mem (kem_mem n (mAll v (L 0) n) (L 0))).2
    generalize disS n (mAll v (L 0) n) (rowF (kemL n (mAll v (L 0) n) (L 0))) (L 0) = dk at *
    obtain ⟨hd0, hd1⟩ := hdk
    have hn1 := bne_f (a := ((L 0 : Nat) : Int)) rfl
    have hn2 := bne_f (a := 2 * dk) rfl
    have hn3 := bne_f (a := ((s0 : Nat) : Int)) rfl
    go_wp2_with fail
    refine Ro.use (HE1.out _ (Below.refl _ _)) ?_
    intro w21 hd21
    have hbd := hd21.below w20.heap.size
    have HR21 := Lib.hid (HR20.out.keep hbd)
    have HMX21 := Lib.hid (HMX20.out.keep hbd)
    have HMY21 := Lib.hid (HMY20.out.keep hbd)
    have HWX21 := Lib.hid (HWX20.out.keep hbd)
    have HWY21 := Lib.hid (HWY20.out.keep hbd)
    clear HR20 HMX20 HMY20 HWX20 HWY20
    have Hb21 := Lib.hid (Hb20.out.trans (hbd.mono Hb20.out.size))
    have HE3 := Lib.hid (HE2.out _ hbd)
    clear hbd hd21 HE1 HE2 HKX20 HKY20
    go_wp2_with fail
    refine Ro.use HE3.out ?_
    intro w22 hd22
    have hbd := hd22.below w21.heap.size
    have HR22 := Lib.hid (HR21.out.keep hbd)
    have HMX22 := Lib.hid (HMX21.out.keep hbd)
    have HMY22 := Lib.hid (HMY21.out.keep hbd)
    have HWX22 := Lib.hid (HWX21.out.keep hbd)
    have HWY22 := Lib.hid (HWY21.out.keep hbd)
    clear HR21 HMX21 HMY21 HWX21 HWY21
    have Hb22 := Lib.hid (Hb21.out.trans (hbd.mono Hb21.out.size))
    clear hbd hd22 HE3 hn1 hn2 hn3 HS0
    generalize mAll v (L 0) n = T at *
    generalize wT (L 0) T (L 0) = U at *
    go_wp2
    go_loopw [178] (fun i wr => ∃ a : Nat, a ≤ L 0 ∧ i = .int .i64 a ∧ Dn w22 wr) (fun i _ => L 0 - (intOf i).toNat)
    case atStart => exact ⟨0, Nat.zero_le _, rfl, Dn.refl _⟩
    case round =>
      obtain ⟨a, ha, rfl, hD⟩ := hrel
      have HDa := Lib.hid hD
      clear hD
      by_cases hla : a < L 0
      · obtain ⟨Y, rfl⟩ : ∃ Y, Y = wr := ⟨wr, rfl⟩
        obtain ⟨xb, xo, X1, x1, eX, hX1, -⟩ := (HMX22.out.dn HDa.out).at hla
        subst eX
        go_wp2
        go_loopw [186] (fun i wx => ∃ b : Nat, b ≤ L 0 ∧ i = .int .i64 b ∧ Dn Y wx) (fun i _ => L 0 - (intOf i).toNat)
        case atStart => exact ⟨0, Nat.zero_le _, rfl, Dn.refl _⟩
        case round =>
          obtain ⟨b, hb, rfl, hD⟩ := hrel
          have HDb := Lib.hid (HDa.out.trans hD)
          have HDy := Lib.hid hD
          clear hD hX1
          by_cases hlb : b < L 0
          · obtain ⟨xb', xo', X1', x1', eX, hX1, hX2⟩ := (HMX22.out.dn HDb.out).at hla
            injection eX with eX
            injection eX with eX1 eX2
            subst eX1 eX2
            obtain ⟨yb, yo, Y1, y1, eY, hY1, hY2⟩ := (HMY22.out.dn HDb.out).at hla
            obtain ⟨zb, zo, Z1, z1, eZ, hZ1, hZ2⟩ := (HWX22.out.dn HDb.out).at hla
            obtain ⟨ub, uo, U1, u1, eU, hU1, hU2⟩ := (HWY22.out.dn HDb.out).at hla
            subst eY eZ eU
            obtain ⟨p1, p2, rfl, hp⟩ := hX2.at hlb
            obtain ⟨q1, q2, rfl, hq⟩ := hY2.at hlb
            obtain ⟨r1, r2, rfl, hr⟩ := hZ2.at hlb
            obtain ⟨s1, s2, rfl, hs⟩ := hU2.at hlb
            have hbd := HBd.out a b hla hlb
            have hud := HUd.out a b hla hlb
            clear hX2 hY2 hZ2 hU2
            generalize T (5 * a + b) = M at *
            generalize U (5 * a + b) = V at *
            obtain ⟨hM1, hM2⟩ := hbd
            obtain ⟨hV1, hV2⟩ := hud
            have hbn := bne_f (a := 2 * M) rfl
            have hbn2 := bne_f (a := 2 * V) rfl
            go_wp2
            go_quiet (fail)
            go_wp2
            go_roundw
            case rel => exact ⟨b + 1, by omega, by go_num, HDy.out.drewN _⟩
            case measure => simp [intOf]; omega
          · have hbc : b = L 0 := by omega
            rw [hbc]
            clear hbc hlb hb
            go_wp2
            go_roundw
            case rel => exact ⟨a + 1, by omega, by go_num, HDb.out⟩
            case measure => simp [intOf]; omega
      · have hac : a = L 0 := by omega
        rw [hac]
        clear hac hla ha
        have HRl := Lib.hid (HR22.out.dn HDa.out)
        have Hbl := Lib.hid (Hb22.out.trans (HDa.out.below _))
        clear HMX22 HMY22 HWX22 HWY22 HBd HUd HDa HR22 Hb22
        go_wp2
        go_loopw [225] (fun i wr => ∃ r : Nat, r ≤ 4 ∧ i = .int .i64 r ∧ RowsK wr (some ⟨G, 0, none⟩) (n + n) (fun _ => L 0) (dbV n v) ∧ Below w.heap.size w wr) (fun i _ => 4 - (intOf i).toNat)
        case atStart => exact ⟨0, Nat.zero_le _, rfl, HRl.out, Hbl.out⟩
        case round =>
          obtain ⟨r, hr, rfl, hR, hB⟩ := hrel
          have HRr := Lib.hid hR
          have HBr := Lib.hid hB
          clear hR hB HRl Hbl
          by_cases hlr : r < 4
          · have hrI : (r : Int) < 4 := by omega
            go_wp2_with fail
            refine (FewF A n c L v _ (H.out.below HBr.out)).mono ?_
            rintro e y1 ⟨Ay, ky, cy, rfl, hky, hry, hcy, hby⟩
            have HM := Lib.hid (WinRF hlr (cA := cy) hry hky hcy HK.out)
            have HR1 := Lib.hid (HRr.out.keep hby)
            have HB1 := Lib.hid (HBr.out.trans (hby.mono HBr.out.size))
            clear hky hry hcy hby
            go_wp2_with fail
            refine Lr.use HM.out ?_
            intro y2 hb2
            have HR2 := Lib.hid (HR1.out.keep hb2)
            have HB2 := Lib.hid (HB1.out.trans (hb2.mono HB1.out.size))
            clear hb2 HM
            have HM := Lib.hid (WinB hlr (N := n + n) (cA := cG) HK.out (by omega) (by omega) HR2.out hNG)
            have hbn := bne_f (a := winF r n (L 0) v) rfl
            generalize winF r n (L 0) v = x at *
            go_wp2_with fail
            refine Lr.use HM.out ?_
            intro y3 hb3
            have HR3 := Lib.hid (HR2.out.keep hb3)
            have HB3 := Lib.hid (HB2.out.trans (hb3.mono HB2.out.size))
            clear hb3 HM
            go_wp2
            go_roundw
            case rel => exact ⟨r + 1, by omega, by go_num, HR3.out, HB3.out⟩
            case measure => simp [intOf]; omega
          · have hr4 : r = 4 := by omega
            rw [hr4]
            clear hr4 hlr hr
            go_wp2_with fail
            refine Lr.use (awake_any _) ?_
            intro y1 hy1
            have HB1 := Lib.hid (HBr.out.trans (hy1.mono HBr.out.size))
            clear hy1
            go_wp2
            go_ret
            exact ⟨rfl, HB1.out⟩
  | some x0 =>
    go_wp2_with fail
    refine HM.out.mono ?_
    rintro e w19 hax
    rcases hax with ⟨g19, x19, hx19, rfl, -, hr19, hb19⟩ | ⟨hx19, rfl, hb19⟩
    case inr => rw [hxa] at hx19; cases hx19
    have HR19 := Lib.hid (HR18.out.keep hb19)
    have HMX19 := Lib.hid (HMX18.out.keep hb19)
    have HMY19 := Lib.hid (HMY18.out.keep hb19)
    have HWX19 := Lib.hid (HWX18.out.keep hb19)
    have HWY19 := Lib.hid (HWY18.out.keep hb19)
    have HKX19 := Lib.hid (HKX18.out.keep hb19)
    have HKY19 := Lib.hid (HKY18.out.keep hb19)
    clear HR18 HMX18 HMY18 HWX18 HWY18 HKX18 HKY18
    have HAX19 := Lib.hid hr19
    have Hb19 := Lib.hid (Hb18.out.trans (hb19.mono Hb18.out.size))
    clear hb19 HM hr19
    rw [hxa] at hx19
    injection hx19 with hx19
    subst hx19
    have HM := Lib.hid (AxisB (N := n + n) (cA := cG) HK.out (by omega) (by omega) HR19.out hNG)
    go_wp2_with fail
    refine HM.out.mono ?_
    rintro e w20 hax
    rcases hax with ⟨g20, x20, hx20, rfl, -, hr20, hb20⟩ | ⟨hx20, rfl, hb20⟩
    case inr => rw [hxa] at hx20; cases hx20
    have HR20 := Lib.hid (HR19.out.keep hb20)
    have HMX20 := Lib.hid (HMX19.out.keep hb20)
    have HMY20 := Lib.hid (HMY19.out.keep hb20)
    have HWX20 := Lib.hid (HWX19.out.keep hb20)
    have HWY20 := Lib.hid (HWY19.out.keep hb20)
    have HKX20 := Lib.hid (HKX19.out.keep hb20)
    have HKY20 := Lib.hid (HKY19.out.keep hb20)
    have HAX20 := Lib.hid (HAX19.out.keep hb20)
    clear HR19 HMX19 HMY19 HWX19 HWY19 HKX19 HKY19 HAX19
    have HAY20 := Lib.hid hr20
    have Hb20 := Lib.hid (Hb19.out.trans (hb20.mono Hb19.out.size))
    clear hb20 HM hr20
    rw [hxa] at hx20
    injection hx20 with hx20
    subst hx20
    have HE1 : Hid (∀ w' : World, Below w20.heap.size w20 w' → Ro 22 #[.slice (some ⟨g13, 0, none⟩) (L 0) c13, .slice (some ⟨g14, 0, none⟩) (L 0) c14] w' (.bool true)) := Lib.hid (fun w' hb => by
      have := equal_any (some ⟨g13, 0, none⟩) (some ⟨g14, 0, none⟩) (L 0) (L 0) c13 c14 _ _ w' (HKX20.out.keep hb).ints (HKY20.out.keep hb).ints (by omega) (by omega)
      rwa [eqB_one] at this)
    have HE2 : Hid (∀ w' : World, Below w20.heap.size w20 w' → Ro 22 #[.slice (some ⟨g19, 0, none⟩) (L 0) (L 0), .slice (some ⟨g20, 0, none⟩) (L 0) (L 0)] w' (.bool true)) := Lib.hid (fun w' hb => by
      have := equal_any (some ⟨g19, 0, none⟩) (some ⟨g20, 0, none⟩) (L 0) (L 0) (L 0) (L 0) _ _ w' (HAX20.out.keep hb).ints (HAY20.out.keep hb).ints (by omega) (by omega)
      rwa [eqB_one] at this)
    have HMm : Hid (∀ a b, a < L 0 → b < L 0 → mrg v (L 0) a b n = mAll v (L 0) n (5 * a + b)) := Lib.hid (fun a b ha hb => (mAll_at hB3 ha hb n (fun i hi => ((okBal_iff.1 HK.out).2.2 i hi).2)).symm)
    have HMX20 := Lib.hid (HMX20.out.congrV (v' := fun a b => mAll v (L 0) n (5 * a + b)) (fun a b ha hb => HMm.out a b ha hb))
    have HBd : Hid (∀ a b, a < L 0 → b < L 0 → -9 ≤ mAll v (L 0) n (5 * a + b) ∧ mAll v (L 0) n (5 * a + b) ≤ 9) := Lib.hid (fun a b ha hb => by have := bal_bd HK.out a b ha hb; omega)
    have HUd : Hid (∀ a b, a < L 0 → b < L 0 → -9 ≤ wT (L 0) (mAll v (L 0) n) (L 0) (5 * a + b) ∧ wT (L 0) (mAll v (L 0) n) (L 0) (5 * a + b) ≤ 9) := Lib.hid (inB_T (T := mAll v (L 0) n) HBd.out (L 0) (Nat.le_refl _))
    clear HMm
    have hdk := dis_bd hB3 hB9 (bal_bd HK.out) (ord_of_mem (kem_mem n (mAll v (L 0) n) (L 0))).2
    generalize disS n (mAll v (L 0) n) (rowF (kemL n (mAll v (L 0) n) (L 0))) (L 0) = dk at *
    obtain ⟨hd0, hd1⟩ := hdk
    have hn1 := bne_f (a := ((L 0 : Nat) : Int)) rfl
    have hn2 := bne_f (a := 2 * dk) rfl
    have hn3 := bne_f (a := ((s0 : Nat) : Int)) rfl
    go_wp2_with fail
    refine Ro.use (HE1.out _ (Below.refl _ _)) ?_
    intro w21 hd21
    have hbd := hd21.below w20.heap.size
    have HR21 := Lib.hid (HR20.out.keep hbd)
    have HMX21 := Lib.hid (HMX20.out.keep hbd)
    have HMY21 := Lib.hid (HMY20.out.keep hbd)
    have HWX21 := Lib.hid (HWX20.out.keep hbd)
    have HWY21 := Lib.hid (HWY20.out.keep hbd)
    clear HR20 HMX20 HMY20 HWX20 HWY20
    have Hb21 := Lib.hid (Hb20.out.trans (hbd.mono Hb20.out.size))
    have HE3 := Lib.hid (HE2.out _ hbd)
    clear hbd hd21 HE1 HE2 HKX20 HKY20
    go_wp2_with fail
    refine Ro.use HE3.out ?_
    intro w22 hd22
    have hbd := hd22.below w21.heap.size
    have HR22 := Lib.hid (HR21.out.keep hbd)
    have HMX22 := Lib.hid (HMX21.out.keep hbd)
    have HMY22 := Lib.hid (HMY21.out.keep hbd)
    have HWX22 := Lib.hid (HWX21.out.keep hbd)
    have HWY22 := Lib.hid (HWY21.out.keep hbd)
    clear HR21 HMX21 HMY21 HWX21 HWY21
    have Hb22 := Lib.hid (Hb21.out.trans (hbd.mono Hb21.out.size))
    clear hbd hd22 HE3 hn1 hn2 hn3 HS0
    generalize mAll v (L 0) n = T at *
    generalize wT (L 0) T (L 0) = U at *
    go_wp2
    go_loopw [178] (fun i wr => ∃ a : Nat, a ≤ L 0 ∧ i = .int .i64 a ∧ Dn w22 wr) (fun i _ => L 0 - (intOf i).toNat)
    case atStart => exact ⟨0, Nat.zero_le _, rfl, Dn.refl _⟩
    case round =>
      obtain ⟨a, ha, rfl, hD⟩ := hrel
      have HDa := Lib.hid hD
      clear hD
      by_cases hla : a < L 0
      · obtain ⟨Y, rfl⟩ : ∃ Y, Y = wr := ⟨wr, rfl⟩
        obtain ⟨xb, xo, X1, x1, eX, hX1, -⟩ := (HMX22.out.dn HDa.out).at hla
        subst eX
        go_wp2
        go_loopw [186] (fun i wx => ∃ b : Nat, b ≤ L 0 ∧ i = .int .i64 b ∧ Dn Y wx) (fun i _ => L 0 - (intOf i).toNat)
        case atStart => exact ⟨0, Nat.zero_le _, rfl, Dn.refl _⟩
        case round =>
          obtain ⟨b, hb, rfl, hD⟩ := hrel
          have HDb := Lib.hid (HDa.out.trans hD)
          have HDy := Lib.hid hD
          clear hD hX1
          by_cases hlb : b < L 0
          · obtain ⟨xb', xo', X1', x1', eX, hX1, hX2⟩ := (HMX22.out.dn HDb.out).at hla
            injection eX with eX
            injection eX with eX1 eX2
            subst eX1 eX2
            obtain ⟨yb, yo, Y1, y1, eY, hY1, hY2⟩ := (HMY22.out.dn HDb.out).at hla
            obtain ⟨zb, zo, Z1, z1, eZ, hZ1, hZ2⟩ := (HWX22.out.dn HDb.out).at hla
            obtain ⟨ub, uo, U1, u1, eU, hU1, hU2⟩ := (HWY22.out.dn HDb.out).at hla
            subst eY eZ eU
            obtain ⟨p1, p2, rfl, hp⟩ := hX2.at hlb
            obtain ⟨q1, q2, rfl, hq⟩ := hY2.at hlb
            obtain ⟨r1, r2, rfl, hr⟩ := hZ2.at hlb
            obtain ⟨s1, s2, rfl, hs⟩ := hU2.at hlb
            have hbd := HBd.out a b hla hlb
            have hud := HUd.out a b hla hlb
            clear hX2 hY2 hZ2 hU2
            generalize T (5 * a + b) = M at *
            generalize U (5 * a + b) = V at *
            obtain ⟨hM1, hM2⟩ := hbd
            obtain ⟨hV1, hV2⟩ := hud
            have hbn := bne_f (a := 2 * M) rfl
            have hbn2 := bne_f (a := 2 * V) rfl
            go_wp2
            go_quiet (fail)
            go_wp2
            go_roundw
            case rel => exact ⟨b + 1, by omega, by go_num, HDy.out.drewN _⟩
            case measure => simp [intOf]; omega
          · have hbc : b = L 0 := by omega
            rw [hbc]
            clear hbc hlb hb
            go_wp2
            go_roundw
            case rel => exact ⟨a + 1, by omega, by go_num, HDb.out⟩
            case measure => simp [intOf]; omega
      · have hac : a = L 0 := by omega
        rw [hac]
        clear hac hla ha
        have HRl := Lib.hid (HR22.out.dn HDa.out)
        have Hbl := Lib.hid (Hb22.out.trans (HDa.out.below _))
        clear HMX22 HMY22 HWX22 HWY22 HBd HUd HDa HR22 Hb22
        go_wp2
        go_loopw [225] (fun i wr => ∃ r : Nat, r ≤ 4 ∧ i = .int .i64 r ∧ RowsK wr (some ⟨G, 0, none⟩) (n + n) (fun _ => L 0) (dbV n v) ∧ Below w.heap.size w wr) (fun i _ => 4 - (intOf i).toNat)
        case atStart => exact ⟨0, Nat.zero_le _, rfl, HRl.out, Hbl.out⟩
        case round =>
          obtain ⟨r, hr, rfl, hR, hB⟩ := hrel
          have HRr := Lib.hid hR
          have HBr := Lib.hid hB
          clear hR hB HRl Hbl
          by_cases hlr : r < 4
          · have hrI : (r : Int) < 4 := by omega
            go_wp2_with fail
            refine (FewF A n c L v _ (H.out.below HBr.out)).mono ?_
            rintro e y1 ⟨Ay, ky, cy, rfl, hky, hry, hcy, hby⟩
            have HM := Lib.hid (WinRF hlr (cA := cy) hry hky hcy HK.out)
            have HR1 := Lib.hid (HRr.out.keep hby)
            have HB1 := Lib.hid (HBr.out.trans (hby.mono HBr.out.size))
            clear hky hry hcy hby
            go_wp2_with fail
            refine Lr.use HM.out ?_
            intro y2 hb2
            have HR2 := Lib.hid (HR1.out.keep hb2)
            have HB2 := Lib.hid (HB1.out.trans (hb2.mono HB1.out.size))
            clear hb2 HM
            have HM := Lib.hid (WinB hlr (N := n + n) (cA := cG) HK.out (by omega) (by omega) HR2.out hNG)
            have hbn := bne_f (a := winF r n (L 0) v) rfl
            generalize winF r n (L 0) v = x at *
            go_wp2_with fail
            refine Lr.use HM.out ?_
            intro y3 hb3
            have HR3 := Lib.hid (HR2.out.keep hb3)
            have HB3 := Lib.hid (HB2.out.trans (hb3.mono HB2.out.size))
            clear hb3 HM
            go_wp2
            go_roundw
            case rel => exact ⟨r + 1, by omega, by go_num, HR3.out, HB3.out⟩
            case measure => simp [intOf]; omega
          · have hr4 : r = 4 := by omega
            rw [hr4]
            clear hr4 hlr hr
            go_wp2_with fail
            refine Lr.use (awake_any _) ?_
            intro y1 hy1
            have HB1 := Lib.hid (HBr.out.trans (hy1.mono HBr.out.size))
            clear hy1
            go_wp2
            go_ret
            exact ⟨rfl, HB1.out⟩

set_option maxHeartbeats 1000000 in
set_option maxRecDepth 1000000 in
theorem voteTwice_many (A : Option Addr) (n c : Nat) (L : Nat → Nat) (v : Nat → Nat → Int) (w : World) (h : ArgR w A n c L v) (h4 : ¬ n ≤ 4) :
    Calls Try.prog 12 #[.slice A n c] w fun e w' => e = .returned (.bool true) ∧ Below w.heap.size w w' := by
  have H := Lib.hid h
  clear h
  go_enter Try.func12, Try.ntmps12
  have hd4 : decide ((4 : Int) < (n : Int)) = true := decide_eq_true (by omega)
  go_wp2_with fail
  refine Lr.use (awake_any _) ?_
  intro w1 hb1
  have HB1 := Lib.hid hb1
  clear hb1
  go_wp2
  go_ret
  exact ⟨rfl, HB1.out⟩
set_option maxHeartbeats 1000000 in
set_option maxRecDepth 1000000 in
theorem voteTwice_bad (A : Option Addr) (n c : Nat) (L : Nat → Nat) (v : Nat → Nat → Int) (w : World) (h : ArgR w A n c L v) (hok : okBal n L v = false) (h4 : n ≤ 4) :
    Calls Try.prog 12 #[.slice A n c] w fun e w' => e = .returned (.bool true) ∧ Below w.heap.size w w' := by
  have H := Lib.hid h
  have HV : Hid (∀ w' : World, Below w.heap.size w w' → Ro 18 #[.slice A n c] w' (.bool false)) := Lib.hid (fun w' hb => by
    have := validR_any A n c L v w' (H.out.below hb)
    rwa [hok] at this)
  clear h hok
  go_enter Try.func12, Try.ntmps12
  have hd4 : decide ((4 : Int) < (n : Int)) = false := decide_eq_false (by omega)
  go_wp2_with fail
  refine Ro.use (HV.out _ (Below.refl _ _)) ?_
  intro w1 hd1
  have Hb1 := Lib.hid (hd1.below w.heap.size)
  clear hd1 HV
  go_wp2_with fail
  refine Lr.use (awake_any _) ?_
  intro w2 hb2
  have HB2 := Lib.hid (Hb1.out.trans (hb2.mono Hb1.out.size))
  clear hb2
  go_wp2
  go_ret
  exact ⟨rfl, HB2.out⟩
theorem voteTwice_walk (A : Option Addr) (n c : Nat) (L : Nat → Nat) (v : Nat → Nat → Int) (w : World) (h : ArgR w A n c L v) :
    Calls Try.prog 12 #[.slice A n c] w fun e w' => e = .returned (.bool true) ∧ Below w.heap.size w w' := by
  by_cases h4 : n ≤ 4
  · cases hok : okBal n L v with
    | false => exact voteTwice_bad A n c L v w h hok h4
    | true => exact voteTwice_fine A n c L v w h hok h4
  · exact voteTwice_many A n c L v w h h4
end Go.Proofs.Ytbaedcpbcelmpaa
