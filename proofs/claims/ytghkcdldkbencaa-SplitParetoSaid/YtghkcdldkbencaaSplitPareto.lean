import Derived.Test.YtghkcdldkbencaaPar2
import Derived.Test.YtghkcdldkbencaaDivd
import Derived.Test.YtghkcdldkbencaaWorth
import Derived.Test.YtghkcdldkbencaaAwake
import Derived.Test.YtghkcdldkbencaaFew
namespace Go.Proofs.Ytghkcdldkbencaa
open Go.RowKit

theorem short9l (n : Nat) (L : Nat → Nat) : Short n (fun i => min (L i) 9) := fun _ _ => Nat.min_le_right _ _

set_option maxHeartbeats 4000000 in
set_option maxRecDepth 1000000 in
theorem splitPareto_walk (A : Option Addr) (n c : Nat) (L : Nat → Nat) (v : Nat → Nat → Int) (D : Option Addr) (nd cd : Nat) (d : Nat → Int) (W : World) (hv : ArgR W A n c L v) (hd : ArgI W D nd cd d) :
    Calls Try.prog 10 #[.slice A n c, .slice D nd cd] W fun e W' => e = .returned (.bool true) ∧ Below W.heap.size W W' := by
  have hn9 : min n 6 ≤ 9 := by omega
  cases hok : okVals n L v with
  | false =>
    have HF : Hid (okVals (min n 6) (fun i => min (L i) 9) v = false) := Lib.hid (okVals_few.trans hok)
    clear hok
    go_enter Try.func10, Try.ntmps10
    go_wp2_with fail
    refine (few_any A n c L v _ hv).mono ?_
    rintro e w1 ⟨x, rfl, hx, hb1⟩
    obtain ⟨A1, c1, rfl, hR1, -⟩ := hx.rows
    have Hb1 := Lib.hid hb1
    have HR1 := Lib.hid hR1
    clear hb1 hx hR1
    go_wp2_with fail
    refine (Nash_bad _ _ _ _ v _ HR1.out hn9 (short9l _ _) HF.out).mono ?_
    rintro e w2 ⟨rfl, rfl⟩
    go_wp2_with fail
    refine (few_any A n c L v _ (hv.below Hb1.out)).mono ?_
    rintro e w2 ⟨x, rfl, hx, hb2⟩
    obtain ⟨A2, c2, rfl, hR2, -⟩ := hx.rows
    have Hb2 := Lib.hid (Hb1.out.trans (hb2.mono Hb1.out.size))
    have HR2 := Lib.hid hR2
    clear hb2 hx hR2
    go_wp2_with fail
    refine (Least_bad _ _ _ _ v _ HR2.out hn9 (short9l _ _) HF.out).mono ?_
    rintro e w3 ⟨rfl, rfl⟩
    go_wp2_with fail
    refine (awake_any _).mono ?_
    rintro e w4 ⟨rfl, hb4⟩
    have Hb4 := Lib.hid (Hb2.out.trans (hb4.mono Hb2.out.size))
    clear hb4
    go_wp2
    go_ret
    exact ⟨rfl, Hb4.out⟩
  | true =>
    obtain ⟨h1, h2, h3, h4, h5, h6⟩ := okVals_of hok
    have HF : Hid (okVals (min n 6) (fun i => min (L i) 9) v = true) := Lib.hid (okVals_few.trans hok)
    have hmin : min n 6 = n := by omega
    have HMin := Lib.hid hmin
    have hL0 : (fun i => min (L i) 9) 0 = L 0 := Nat.min_eq_left (by omega)
    have HL0 := Lib.hid hL0
    have HMw := Lib.hid (okVals_mat hv.rows hok)
    have H6 := Lib.hid h6
    have HO := Lib.hid hok
    have HD : Hid (∀ f, Own n (L 0) f → okDiv (min n 6) (fun i => min (L i) 9) v (L 0) f = true) := Lib.hid (fun f hf => by
      simp only [okDiv, Bool.and_eq_true, decide_eq_true_eq]
      exact ⟨okVals_few.trans hok, by omega, by rw [hmin]; exact hf⟩)
    clear hok hmin hL0 h5 h6
    go_enter Try.func10, Try.ntmps10
    go_wp2_with fail
    refine (few_any A n c L v _ hv).mono ?_
    rintro e w1 ⟨x, rfl, hx, hb1⟩
    obtain ⟨A1, c1, rfl, hR1, -⟩ := hx.rows
    have Hb1 := Lib.hid hb1
    have HR1 := Lib.hid hR1
    clear hb1 hx hR1
    go_wp2_with fail
    refine (Nash_few A1 (min n 6) n (L 0) c1 _ v _ HR1.out hn9 (short9l _ _) HF.out HMin.out HL0.out).mono ?_
    rintro e w2 ⟨Aa, ca, rfl, hIa, hb2⟩
    have Hb2 := Lib.hid (Hb1.out.trans (hb2.mono Hb1.out.size))
    have HIa2 := Lib.hid hIa
    clear hb2 hIa
    go_wp2_with fail
    refine (few_any A n c L v _ (hv.below Hb2.out)).mono ?_
    rintro e w3 ⟨x, rfl, hx, hb3⟩
    obtain ⟨A3, c3, rfl, hR3, -⟩ := hx.rows
    have Hb3 := Lib.hid (Hb2.out.trans (hb3.mono Hb2.out.size))
    have HIa3 := Lib.hid (HIa2.out.keep hb3)
    have HR3 := Lib.hid hR3
    clear hb3 hx hR3
    go_wp2_with fail
    refine (Least_few A3 (min n 6) n (L 0) c3 _ v _ HR3.out hn9 (short9l _ _) HF.out HMin.out HL0.out).mono ?_
    rintro e w4 ⟨Ab, cb, rfl, hIb, hb4⟩
    have Hb4 := Lib.hid (Hb3.out.trans (hb4.mono Hb3.out.size))
    have HIa4 := Lib.hid (HIa3.out.keep hb4)
    have HIb4 := Lib.hid hIb
    clear hb4 hIb
    go_wp2_with fail
    refine (divided_any _ _ _ _ _ _ L v d _ (hv.below Hb4.out) (hd.below Hb4.out)).mono ?_
    rintro e w5 ⟨rfl, rfl⟩
    cases hdv : okDiv n L v nd d with
    | false =>
      go_wp2_with fail
      refine (awake_any _).mono ?_
      rintro e w6 ⟨rfl, hb6⟩
      have Hb6 := Lib.hid (Hb4.out.trans (hb6.mono Hb4.out.size))
      clear hb6
      go_wp2
      go_ret
      exact ⟨rfl, Hb6.out⟩
    | true =>
      have hO := okDiv_of hdv
      have hnd := hO.2.1
      subst hnd
      have HOwn := Lib.hid hO.2.2
      clear hO hdv
      go_wp2_with fail
      refine (few_any A n c L v _ (hv.below Hb4.out)).mono ?_
      rintro e w5 ⟨x, rfl, hx, hb5⟩
      obtain ⟨A5, c5, rfl, hR5, -⟩ := hx.rows
      have Hb5 := Lib.hid (Hb4.out.trans (hb5.mono Hb4.out.size))
      have HIa5 := Lib.hid (HIa4.out.keep hb5)
      have HIb5 := Lib.hid (HIb4.out.keep hb5)
      have HR5 := Lib.hid hR5
      clear hb5 hx hR5
      go_wp2_with fail
      refine (Better_none _ _ (min n 6) n (L 0) _ _ _ v _ _ HR5.out HIa5.out hn9 (short9l _ _) (by omega) (HD.out _ (dg_own h1)) HMin.out (nash_best H6.out)).mono ?_
      rintro e w6 ⟨rfl, hb6⟩
      have Hb6 := Lib.hid (Hb5.out.trans (hb6.mono Hb5.out.size))
      have HIb6 := Lib.hid (HIb5.out.keep hb6)
      clear hb6
      go_wp2_with fail
      refine (few_any A n c L v _ (hv.below Hb6.out)).mono ?_
      rintro e w7 ⟨x, rfl, hx, hb7⟩
      obtain ⟨A7, c7, rfl, hR7, -⟩ := hx.rows
      have Hb7 := Lib.hid (Hb6.out.trans (hb7.mono Hb6.out.size))
      have HIb7 := Lib.hid (HIb6.out.keep hb7)
      have HR7 := Lib.hid hR7
      clear hb7 hx hR7
      go_wp2_with fail
      refine (Better_none _ _ (min n 6) n (L 0) _ _ _ v _ _ HR7.out HIb7.out hn9 (short9l _ _) (by omega) (HD.out _ (dg_own h1)) HMin.out least_best).mono ?_
      rintro e w8 ⟨rfl, hb8⟩
      have Hb8 := Lib.hid (Hb7.out.trans (hb8.mono Hb7.out.size))
      clear hb8
      go_wp2_with fail
      refine (list_any _ _ _ d _ (hd.below Hb8.out)).mono ?_
      rintro e w9 ⟨x, rfl, hx, hb9⟩
      rw [show min (L 0) 9 = L 0 by omega] at hx
      obtain ⟨A9, c9, rfl, hI9⟩ := hx.sl0
      have Hb9 := Lib.hid (Hb8.out.trans (hb9.mono Hb8.out.size))
      have HI9 := Lib.hid hI9
      clear hb9 hx hI9
      have HT0 : Hid (((0 : Nat) : Int) ≤ tot v n (L 0) d) := Lib.hid (tot_bd H6.out h4 h2 d).1
      go_wp2_with fail
      go_loopw [14, 77] (fun s x wr => ∃ (k : Nat) (f : Nat → Int) (An : Option Addr) (cn : Nat), k ≤ 2900 ∧ x = .int .i64 k ∧ s = .slice An (L 0) cn ∧ Ints wr An (L 0) f ∧ Own n (L 0) f ∧ (k : Int) ≤ tot v n (L 0) f ∧ Below W.heap.size W wr) (fun _ x _ => 2900 - (intOf x).toNat)
      case atStart => exact ⟨0, d, A9, c9, by omega, rfl, rfl, HI9.out, HOwn.out, HT0.out, Hb9.out⟩
      case round =>
        obtain ⟨k, f, An, cn, hk, rfl, rfl, hIn, hOn, hTk, hbel⟩ := hrel
        obtain ⟨ht1, ht2⟩ := tot_bd (v := v) H6.out h4 h2 f
        by_cases hlt : k < 2900
        · have HIn := Lib.hid hIn
          have HOn := Lib.hid hOn
          have HTk := Lib.hid hTk
          have HBel := Lib.hid hbel
          clear hIn hOn hTk hbel ht1 ht2 HI9 HT0
          go_wp2_with fail
          refine (few_any A n c L v _ (hv.below HBel.out)).mono ?_
          rintro e w10 ⟨x, rfl, hx, hb10⟩
          obtain ⟨A10, c10, rfl, hR10, -⟩ := hx.rows
          have Hb10 := Lib.hid (HBel.out.trans (hb10.mono HBel.out.size))
          have HIn10 := Lib.hid (HIn.out.keep hb10)
          have HR10 := Lib.hid hR10
          clear hb10 hx hR10
          go_wp2_with fail
          refine (Better_few _ _ (min n 6) n (L 0) _ _ _ v f _ HR10.out HIn10.out hn9 (short9l _ _) (by omega) (HD.out _ HOn.out) HMin.out).mono ?_
          rintro e w11 ⟨hb11, ⟨i, An2, cn2, rfl, hbp, hI11⟩ | rfl⟩
          · obtain ⟨hge, hmore⟩ := betP_tot hbp
            have Hb11 := Lib.hid (Hb10.out.trans (hb11.mono Hb10.out.size))
            have HIn11 := Lib.hid (HIn10.out.keep hb11)
            have HI11 := Lib.hid hI11
            have HM11 := Lib.hid (HMw.out.keep Hb11.out)
            have HDv : Hid (divB n (L 0) L (dg n (L 0) i) = true) := Lib.hid (decide_eq_true ⟨rfl, dg_own h1⟩)
            have HX := Lib.hid (wrt_700 H6.out h4 (dg n (L 0) i))
            have HY := Lib.hid (wrt_700 H6.out h4 f)
            have HGe := Lib.hid hge
            have HMo := Lib.hid hmore
            clear hb11 hI11 hbp hge hmore
            go_wp2_with fail
            refine (rdivision_any _ _ _ _ _ _ L v _ _ (hv.below Hb11.out).rows h1 h2 HI11.out (by omega)).mono ?_
            rintro e w12 ⟨rfl, rfl⟩
            rw [HDv.out]
            go_wp2_with fail
            go_loopw [17, 99] (fun s x wi => ∃ j : Nat, j ≤ n ∧ x = .int .i64 j ∧ s = .int .i64 (sumTo (wrt v (L 0) (dg n (L 0) i)) j - sumTo (wrt v (L 0) f) j) ∧ Dn w11 wi) (fun _ x _ => n - (intOf x).toNat)
            case atStart => exact ⟨0, Nat.zero_le _, rfl, rfl, Dn.refl _⟩
            case round =>
              obtain ⟨j, hj, rfl, rfl, hDn⟩ := hrel
              obtain ⟨s1, s2⟩ := sumTo_bd HX.out j (by omega)
              obtain ⟨s3, s4⟩ := sumTo_bd HY.out j (by omega)
              by_cases hjn : j < n
              · have HDn := Lib.hid hDn
                obtain ⟨x1, x2⟩ := HX.out j hjn
                obtain ⟨y1, y2⟩ := HY.out j hjn
                have hxy := HGe.out j hjn
                have HBw := Lib.hid (H6.out.le (u' := 100000) (by omega))
                clear hDn
                go_wp2_with fail
                refine (lworth_any _ _ n (L 0) _ _ v (dg n (L 0) i) j j _ (HM11.out.dn HDn.out) (HI11.out.dn HDn.out) HBw.out (by omega) hjn (by omega)).mono ?_
                rintro e w12 ⟨rfl, rfl⟩
                go_wp2_with fail
                refine (lworth_any _ _ n (L 0) _ _ v f j j _ (HM11.out.dn HDn.out) (HIn11.out.dn HDn.out) HBw.out (by omega) hjn (by omega)).mono ?_
                rintro e w12 ⟨rfl, rfl⟩
                have e1 : wTo (v j) (dg n (L 0) i) j (L 0) = wrt v (L 0) (dg n (L 0) i) j := rfl
                have e2 : wTo (v j) f j (L 0) = wrt v (L 0) f j := rfl
                have HS1 : Hid (sumTo (wrt v (L 0) (dg n (L 0) i)) (j + 1) = sumTo (wrt v (L 0) (dg n (L 0) i)) j + wrt v (L 0) (dg n (L 0) i) j) := Lib.hid rfl
                have HS2 : Hid (sumTo (wrt v (L 0) f) (j + 1) = sumTo (wrt v (L 0) f) j + wrt v (L 0) f j) := Lib.hid rfl
                rw [e1, e2]
                clear e1 e2
                go_wp2
                go_roundw
                case rel => exact ⟨j + 1, by omega, by go_num, val_int (by rw [HS1.out, HS2.out]; omega), HDn.out⟩
                case measure => simp [intOf]; omega
              · obtain rfl : j = n := by omega
                have hmr := HMo.out
                have hT := HTk.out
                have HTn : Hid (((k + 1 : Nat) : Int) ≤ tot v j (L 0) (dg j (L 0) i)) := Lib.hid (by push_cast; omega)
                have hsm : ¬ sumTo (wrt v (L 0) (dg j (L 0) i)) j - sumTo (wrt v (L 0) f) j < 1 := by
                  unfold tot at hmr
                  omega
                have HBn := Lib.hid (Hb11.out.trans (hDn.below _))
                have HIx := Lib.hid (HI11.out.dn hDn)
                clear hmr hT hDn
                go_wp2
                go_roundw
                case rel => exact ⟨k + 1, dg j (L 0) i, An2, cn2, by omega, by go_num, rfl, HIx.out, dg_own h1, HTn.out, HBn.out⟩
                case measure => simp [intOf]; omega
          · go_wp2_with fail
            refine (awake_any _).mono ?_
            rintro e w12 ⟨rfl, hb12⟩
            have Hb12 := Lib.hid ((Hb10.out.trans (hb11.mono Hb10.out.size)).trans (hb12.mono (Hb10.out.trans (hb11.mono Hb10.out.size)).size))
            clear hb11 hb12
            go_wp2
            go_ret
            exact ⟨rfl, Hb12.out⟩
        · omega
end Go.Proofs.Ytghkcdldkbencaa
