import Derived.Test.YthbahfmcmbjglaaJg
import Derived.Test.YthbahfmcmbjglaaQi
import Derived.Test.YthbahfmcmbjglaaQo
namespace Go.Proofs.Ythbahfmcmbjglaa
open Go.RowKit

set_option maxHeartbeats 4000000 in
set_option maxRecDepth 1000000 in
theorem datesMost_walk (A : Option Addr) (n c : Nat) (J : Nat → Nat → Int) (W : World) (h : ArgK 4 W A n c J) : TrueBelow 10 #[.slice A n c] W := by
  have hnm : n ≤ maxLen := Nat.le_trans h.1 h.2.1
  have H := Lib.hid h.2.2.2
  have Hn := Lib.hid hnm
  clear h hnm
  show Calls _ _ _ _ _
  go_enter Try.func10, Try.ntmps10
  go_wp2_with fail
  refine (of_any A n c J W H.out Hn.out).mono ?_
  rintro e w1 ⟨x, rfl, hx, hb1⟩
  obtain ⟨Ax, cx, rfl, -, hRx, -, hcx, hcm⟩ := hx.form
  have HX := Lib.hid hRx
  have HB1 := Lib.hid hb1
  have Hm10 := Lib.hid (show min n 10 ≤ maxLen by have := Hn.out; omega)
  have HMin := Lib.hid (okJ_min n J)
  clear hx hRx hb1 hcx hcm
  cases hok : okJ n J with
  | false =>
    have HOk := Lib.hid hok
    have HBad := Lib.hid (show okJ (min n 10) J = false by rw [HMin.out, HOk.out])
    clear hok
    go_wp2_with fail
    refine (most_bad Ax (min n 10) cx J w1 HX.out Hm10.out HBad.out).use fun w2 hb2 => ?_
    have HB2 := Lib.hid (HB1.out.trans (hb2.mono HB1.out.size))
    clear hb2
    go_wp2_with fail
    refine (of_any A n c J w2 (H.out.keep HB2.out) Hn.out).mono ?_
    rintro e w3 ⟨x, rfl, hx, hb3⟩
    obtain ⟨Ay, cy, rfl, -, hRx, -, hcx, hcm⟩ := hx.form
    have HY := Lib.hid hRx
    have HB3 := Lib.hid (HB2.out.trans (hb3.mono HB2.out.size))
    clear hx hRx hb3 hcx hcm
    go_wp2_with fail
    refine (weigh_bad Ay (min n 10) cy J w3 HY.out Hm10.out HBad.out).use fun w4 hb4 => ?_
    have HB4 := Lib.hid (HB3.out.trans (hb4.mono HB3.out.size))
    clear hb4
    go_wp2_with fail
    refine (refValid_any A n c J w4 (H.out.keep HB4.out) Hn.out).use fun w5 hb5 => ?_
    have HB5 := Lib.hid (HB4.out.trans (hb5.mono HB4.out.size))
    clear hb5
    rw [HOk.out]
    go_wp2_with fail
    refine (awake_any w5).use fun w8 hb8 => ?_
    have HB8 := Lib.hid (HB5.out.trans (hb8.mono HB5.out.size))
    clear hb8
    go_wp2
    go_ret
    exact ⟨rfl, HB8.out⟩
  | true =>
    have HOk := Lib.hid hok
    have hn8 := (okJ_iff.1 hok).1
    have hmn : min n 10 = n := by omega
    rw [hmn] at HX ⊢
    have HMn := Lib.hid hmn
    clear hok hmn Hm10 hn8
    go_wp2_with fail
    refine (most_ok Ax n cx J w1 HX.out HOk.out).use fun w2 hb2 => ?_
    have HB2 := Lib.hid (HB1.out.trans (hb2.mono HB1.out.size))
    have HRM := Lib.hid (fun w' (hb : Below W.heap.size W w') => refM_any A n c J w' (H.out.keep hb) HOk.out)
    generalize (hvF (wtS n (wtM J)) (fitB n J) (2 ^ n)).1 = rm at *
    clear hb2
    go_wp2_with fail
    refine (of_any A n c J w2 (H.out.keep HB2.out) Hn.out).mono ?_
    rintro e w3 ⟨x, rfl, hx, hb3⟩
    rw [HMn.out] at hx
    obtain ⟨Ay, cy, rfl, -, hRx, -, hcx, hcm⟩ := hx.form
    have HY := Lib.hid hRx
    have HB3 := Lib.hid (HB2.out.trans (hb3.mono HB2.out.size))
    clear hx hRx hb3 hcx hcm
    go_wp2_with fail
    refine (weigh_ok Ay n cy J w3 HY.out HOk.out).use fun w4 hb4 => ?_
    have HB4 := Lib.hid (HB3.out.trans (hb4.mono HB3.out.size))
    have HRW := Lib.hid (fun w' (hb : Below W.heap.size W w') => refW_any A n c J w' (H.out.keep hb) HOk.out)
    generalize (hvF (wtS n (wtW J)) (fitB n J) (2 ^ n)).1 = ra at *
    generalize (hvF (wtS n (wtW J)) (fitB n J) (2 ^ n)).2 = rb at *
    clear hb4
    go_wp2_with fail
    refine (refValid_any A n c J w4 (H.out.keep HB4.out) Hn.out).use fun w5 hb5 => ?_
    have HB5 := Lib.hid (HB4.out.trans (hb5.mono HB4.out.size))
    clear hb5
    rw [HOk.out]
    go_wp2_with fail
    refine (HRW.out w5 HB5.out).use fun w6 hb6 => ?_
    have HB6 := Lib.hid (HB5.out.trans (hb6.mono HB5.out.size))
    clear hb6
    go_wp2_with fail
    refine (HRM.out w6 HB6.out).use fun w7 hb7 => ?_
    have HB7 := Lib.hid (HB6.out.trans (hb7.mono HB6.out.size))
    clear hb7
    go_wp2_with fail
    refine (awake_any w7).use fun w8 hb8 => ?_
    have HB8 := Lib.hid (HB7.out.trans (hb8.mono HB7.out.size))
    clear hb8
    go_wp2
    go_ret
    exact ⟨rfl, HB8.out⟩
end Go.Proofs.Ythbahfmcmbjglaa
