import Derived.Test.YtghkcdldkbencabLow2
import Derived.Test.YtghkcdldkbencabDivd
import Derived.Test.YtghkcdldkbencabAwake
import Derived.Test.YtghkcdldkbencabFew
namespace Go.Proofs.Ytghkcdldkbencab
open Go.RowKit

theorem short9l (n : Nat) (L : Nat → Nat) : Short n (fun i => min (L i) 9) := fun _ _ => Nat.min_le_right _ _

set_option maxHeartbeats 4000000 in
set_option maxRecDepth 1000000 in
theorem splitLow_walk (A : Option Addr) (n c : Nat) (L : Nat → Nat) (v : Nat → Nat → Int) (D : Option Addr) (nd cd : Nat) (d : Nat → Int) (W : World) (hv : ArgR W A n c L v) (hd : ArgI W D nd cd d) :
    Calls Try.prog 5 #[.slice A n c, .slice D nd cd] W fun e W' => e = .returned (.bool true) ∧ Below W.heap.size W W' := by
  have hn9 : min n 6 ≤ 9 := by omega
  have hb0 := (Below.refl W.heap.size W).alloc (Nat.le_refl _) (.cells #[.slice A n c] 22)
  have hbox := Box.new W 22 (.slice A n c)
  have HB0 := Lib.hid hb0
  have HBox := Lib.hid hbox
  have c0 := hbox.cell
  clear hb0 hbox
  cases hok : okVals n L v with
  | false =>
    have HF : Hid (okVals (min n 6) (fun i => min (L i) 9) v = false) := Lib.hid (okVals_few.trans hok)
    clear hok
    go_enter Try.func5, Try.ntmps5
    go_wp2_with fail
    refine (few_any A n c L v _ (hv.below HB0.out)).mono ?_
    rintro e w1 ⟨x, rfl, hx, hb1⟩
    obtain ⟨A1, c1, rfl, hR1, -⟩ := hx.rows
    have Hb1 := Lib.hid (HB0.out.trans (hb1.mono (by simp)))
    have c1' := (HBox.out.keep hb1).cell
    have HBox1 := Lib.hid (HBox.out.keep hb1)
    have HR1 := Lib.hid hR1
    clear hb1 hx hR1
    go_wp2_with fail
    refine (Nash_bad _ _ _ _ v _ HR1.out hn9 (short9l _ _) HF.out).mono ?_
    rintro e w2 ⟨rfl, rfl⟩
    go_wp2_with fail
    refine (few_any A n c L v _ (hv.below Hb1.out)).mono ?_
    rintro e w2 ⟨x, rfl, hx, hb2⟩
    obtain ⟨A2, c2, rfl, hR2, -⟩ := hx.rows
    have Hb2 := Lib.hid (Hb1.out.trans (hb2.mono Hb1.out.size))
    have HR2 := Lib.hid hR2
    clear hb2 hx hR2
    go_wp2_with fail
    refine (Least_bad _ _ _ _ v _ HR2.out hn9 (short9l _ _) HF.out).mono ?_
    rintro e w3 ⟨rfl, rfl⟩
    go_wp2_with fail
    refine (awake_any _).mono ?_
    rintro e w4 ⟨rfl, hb4⟩
    have Hb4 := Lib.hid (Hb2.out.trans (hb4.mono Hb2.out.size))
    clear hb4
    go_wp2
    go_ret
    exact ⟨rfl, Hb4.out⟩
  | true =>
    obtain ⟨h1, h2, h3, h4, h5, h6⟩ := okVals_of hok
    have HF : Hid (okVals (min n 6) (fun i => min (L i) 9) v = true) := Lib.hid (okVals_few.trans hok)
    have hmin : min n 6 = n := by omega
    have HMin := Lib.hid hmin
    have hL0 : (fun i => min (L i) 9) 0 = L 0 := Nat.min_eq_left (by omega)
    have HL0 := Lib.hid hL0
    have HMw := Lib.hid (okVals_mat hv.rows hok)
    have H6 := Lib.hid h6
    have HO := Lib.hid hok
    clear hok hmin hL0 h5 h6
    go_enter Try.func5, Try.ntmps5
    go_wp2_with fail
    refine (few_any A n c L v _ (hv.below HB0.out)).mono ?_
    rintro e w1 ⟨x, rfl, hx, hb1⟩
    obtain ⟨A1, c1, rfl, hR1, -⟩ := hx.rows
    have Hb1 := Lib.hid (HB0.out.trans (hb1.mono (by simp)))
    have HBox1 := Lib.hid (HBox.out.keep hb1)
    have HR1 := Lib.hid hR1
    clear hb1 hx hR1 c0
    go_wp2_with fail
    refine (Nash_few A1 (min n 6) n (L 0) c1 _ v _ HR1.out hn9 (short9l _ _) HF.out HMin.out HL0.out).mono ?_
    rintro e w2 ⟨Aa, ca, rfl, hIa, hb2⟩
    have Hb2 := Lib.hid (Hb1.out.trans (hb2.mono Hb1.out.size))
    have HBox2 := Lib.hid (HBox1.out.keep hb2)
    have HIa2 := Lib.hid hIa
    have c2 := HBox2.out.cell
    clear hb2 hIa
    go_wp2_with fail
    refine (few_any A n c L v _ (hv.below Hb2.out)).mono ?_
    rintro e w3 ⟨x, rfl, hx, hb3⟩
    obtain ⟨A3, c3, rfl, hR3, -⟩ := hx.rows
    have Hb3 := Lib.hid (Hb2.out.trans (hb3.mono Hb2.out.size))
    have HBox3 := Lib.hid (HBox2.out.keep hb3)
    have HIa3 := Lib.hid (HIa2.out.keep hb3)
    have HR3 := Lib.hid hR3
    clear hb3 hx hR3 c2
    go_wp2_with fail
    refine (Least_few A3 (min n 6) n (L 0) c3 _ v _ HR3.out hn9 (short9l _ _) HF.out HMin.out HL0.out).mono ?_
    rintro e w4 ⟨Ab, cb, rfl, hIb, hb4⟩
    have Hb4 := Lib.hid (Hb3.out.trans (hb4.mono Hb3.out.size))
    have HBox4 := Lib.hid (HBox3.out.keep hb4)
    have HIa4 := Lib.hid (HIa3.out.keep hb4)
    have HIb4 := Lib.hid hIb
    have c4 := HBox4.out.cell
    clear hb4 hIb
    go_wp2_with fail
    refine (divided_any _ _ _ _ _ _ L v d _ (hv.below Hb4.out) (hd.below Hb4.out)).mono ?_
    rintro e w5 ⟨rfl, rfl⟩
    cases hdv : okDiv n L v nd d with
    | false =>
      go_wp2_with fail
      refine (awake_any _).mono ?_
      rintro e w6 ⟨rfl, hb6⟩
      have Hb6 := Lib.hid (Hb4.out.trans (hb6.mono Hb4.out.size))
      clear hb6
      go_wp2
      go_ret
      exact ⟨rfl, Hb6.out⟩
    | true =>
      have hO := okDiv_of hdv
      have hnd := hO.2.1
      subst hnd
      have HOwn := Lib.hid hO.2.2
      have HN := Lib.hid (low_nash (v := v) h1 hO.2.2)
      have HL := Lib.hid (low_least h1 (by omega) H6.out hO.2.2)
      have HDa : Hid (divB n (L 0) L (dg n (L 0) (nashI v n (L 0))) = true) := Lib.hid (decide_eq_true ⟨rfl, dg_own h1⟩)
      have HDb : Hid (divB n (L 0) L (dg n (L 0) (leastI v n (L 0))) = true) := Lib.hid (decide_eq_true ⟨rfl, dg_own h1⟩)
      have HM := Lib.hid (HMw.out.keep Hb4.out)
      have HId := Lib.hid (hd.below Hb4.out).2.2.2
      clear hO hdv
      go_wp2_with fail
      refine (rdivision_any _ _ _ _ _ _ L v _ _ (hv.below Hb4.out).rows h1 h2 HIa4.out (by omega)).mono ?_
      rintro e w6 ⟨rfl, rfl⟩
      rw [HDa.out]
      go_wp2_with fail
      refine (rdivision_any _ _ _ _ _ _ L v _ _ (hv.below Hb4.out).rows h1 h2 HIb4.out (by omega)).mono ?_
      rintro e w6 ⟨rfl, rfl⟩
      rw [HDb.out]
      go_wp2_with fail
      refine (tell_any A _ n (L 0) c _ _ v _ _ HBox4.out HM.out HIa4.out H6.out (by omega) h2).mono ?_
      rintro e w6 ⟨rfl, rfl⟩
      go_wp2_with fail
      refine (tell_any A _ n (L 0) c _ _ v _ _ HBox4.out HM.out HIb4.out H6.out (by omega) h2).mono ?_
      rintro e w6 ⟨rfl, rfl⟩
      go_wp2_with fail
      refine (tell_any A _ n (L 0) c _ _ v _ _ HBox4.out HM.out HId.out H6.out (by omega) h2).mono ?_
      rintro e w6 ⟨rfl, rfl⟩
      have hle := HL.out
      have hns := HN.out
      clear HL HN HDa HDb
      generalize minTo (wrt v (L 0) d) n = x at *
      generalize cntTo (wrt v (L 0) d) n = y at *
      generalize prodTo (wrt v (L 0) d) n = z at *
      generalize minTo (wrt v (L 0) (dg n (L 0) (leastI v n (L 0)))) n = x2 at *
      generalize cntTo (wrt v (L 0) (dg n (L 0) (nashI v n (L 0)))) n = y2 at *
      generalize prodTo (wrt v (L 0) (dg n (L 0) (nashI v n (L 0)))) n = z2 at *
      rcases hns with hlt | ⟨rfl, hpr⟩
      · go_wp2_with fail
        refine (awake_any _).mono ?_
        rintro e w6 ⟨rfl, hb6⟩
        have Hb6 := Lib.hid (Hb4.out.trans (hb6.mono Hb4.out.size))
        clear hb6
        go_wp2
        go_ret
        exact ⟨rfl, Hb6.out⟩
      · have hnl : ¬ y < y := by omega
        go_wp2_with fail
        refine (awake_any _).mono ?_
        rintro e w6 ⟨rfl, hb6⟩
        have Hb6 := Lib.hid (Hb4.out.trans (hb6.mono Hb4.out.size))
        clear hb6
        go_wp2
        go_ret
        exact ⟨rfl, Hb6.out⟩
end Go.Proofs.Ytghkcdldkbencab
