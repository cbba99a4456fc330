import Derived.Test.YthbahfmcmbjglaaQl
import Derived.Test.YthbahfmcmbjglaaGld
namespace Go.Proofs.Ythbahfmcmbjglaa
open Go.RowKit

theorem okJ_min (n : Nat) (J : Nat → Nat → Int) : okJ (min n 10) J = okJ n J := by
  by_cases h : n ≤ 10
  · rw [Nat.min_eq_left h]
  · unfold okJ
    rw [decide_eq_false (show ¬ (1 ≤ min n 10 ∧ min n 10 ≤ 8) by omega), decide_eq_false (show ¬ (1 ≤ n ∧ n ≤ 8) by omega), Bool.false_and, Bool.false_and]

set_option maxHeartbeats 2000000 in
set_option maxRecDepth 1000000 in
theorem datesShort_walk (A : Option Addr) (n c : Nat) (J : Nat → Nat → Int) (W : World) (h : ArgK 4 W A n c J) : TrueBelow 5 #[.slice A n c] W := by
  have hnm : n ≤ maxLen := Nat.le_trans h.1 h.2.1
  have H := Lib.hid h.2.2.2
  have Hn := Lib.hid hnm
  clear h hnm
  show Calls _ _ _ _ _
  go_enter Try.func5, Try.ntmps5
  go_wp2_with fail
  refine (of_any A n c J W H.out Hn.out).mono ?_
  rintro e w1 ⟨x, rfl, hx, hb1⟩
  obtain ⟨Ax, cx, rfl, -, hRx, -, hcx, hcm⟩ := hx.form
  have HX := Lib.hid hRx
  have HB1 := Lib.hid hb1
  have Hm10 := Lib.hid (show min n 10 ≤ maxLen by omega)
  have HMin := Lib.hid (okJ_min n J)
  clear hx hRx hb1 hcx hcm
  cases hok : okJ n J with
  | false =>
    have HOk := Lib.hid hok
    clear hok
    go_wp2_with fail
    refine (short_bad Ax (min n 10) cx J w1 HX.out Hm10.out (by rw [HMin.out, HOk.out])).use fun w2 hb2 => ?_
    have HB2 := Lib.hid (HB1.out.trans (hb2.mono HB1.out.size))
    clear hb2
    go_wp2_with fail
    refine (refValid_any A n c J w2 (H.out.keep HB2.out) Hn.out).use fun w3 hb3 => ?_
    have HB3 := Lib.hid (HB2.out.trans (hb3.mono HB2.out.size))
    clear hb3
    rw [HOk.out]
    go_wp2_with fail
    refine (awake_any w3).use fun w4 hb4 => ?_
    have HB4 := Lib.hid (HB3.out.trans (hb4.mono HB3.out.size))
    clear hb4
    go_wp2
    go_ret
    exact ⟨rfl, HB4.out⟩
  | true =>
    have HOk := Lib.hid hok
    have hn8 := (okJ_iff.1 hok).1
    have hmn : min n 10 = n := by omega
    rw [hmn] at HX HMin ⊢
    have hn8' := hn8.2
    clear hok hmn Hm10 hn8
    obtain ⟨sm, hsm⟩ : ∃ sm, smT (enF (plS 1 n J).p (plS 1 n J).m) n = sm := ⟨_, rfl⟩
    have HSm := Lib.hid hsm
    clear hsm
    go_wp2_with fail
    refine (short_ok Ax n cx J w1 HX.out HOk.out).mono ?_
    rintro e w2 ⟨v, rfl, hv, hb2⟩
    rw [HSm.out]
    have HB2 := Lib.hid (HB1.out.trans (hb2.mono HB1.out.size))
    obtain ⟨Av, cv, rfl, -, hRv, -⟩ := hv.form
    have HV := Lib.hid hRv
    clear hv hRv hb2
    have hm := plS_m 1 HOk.out
    have HEq := Lib.hid (eqKB_self (plS 1 n J).m (plS 1 n J).p)
    go_wp2_with fail
    refine (refValid_any A n c J w2 (H.out.keep HB2.out) Hn.out).use fun w3 hb3 => ?_
    have HB3 := Lib.hid (HB2.out.trans (hb3.mono HB2.out.size))
    have HV3 := Lib.hid (HV.out.keep hb3)
    clear hb3
    rw [HOk.out]
    go_wp2_with fail
    refine (refShort_any A n c J w3 (H.out.keep HB3.out) HOk.out).mono ?_
    rintro e w4 ⟨v2, rfl, hv2, hb4⟩
    rw [HSm.out]
    have HB4 := Lib.hid (HB3.out.trans (hb4.mono HB3.out.size))
    have HV4 := Lib.hid (HV3.out.keep hb4)
    obtain ⟨Aq, cq, rfl, -, hRq, -⟩ := hv2.form
    have HQ4 := Lib.hid hRq
    clear hv2 hRq hb4
    go_wp2_with fail
    refine (own_any Av (plS 1 n J).m cv (plS 1 n J).p w4 HV4.out (by omega)).mono ?_
    rintro e w5 ⟨v5, rfl, hv5, hb5⟩
    have HB5 := Lib.hid (HB4.out.trans (hb5.mono HB4.out.size))
    have HQ5 := Lib.hid (HQ4.out.keep hb5)
    obtain ⟨A5, c5, rfl, -, hR5, -⟩ := hv5.form
    have HV5 := Lib.hid hR5
    clear hv5 hR5 hb5
    go_wp2_with fail
    refine (equalR_any A5 Aq (plS 1 n J).m (plS 1 n J).m c5 cq (plS 1 n J).p (plS 1 n J).p w5 HV5.out HQ5.out (by omega) (by omega)).use fun w6 hb6 => ?_
    have HB6 := Lib.hid (HB5.out.trans (hb6.mono HB5.out.size))
    clear hb6
    rw [HEq.out]
    go_wp2_with fail
    refine (awake_any w6).use fun w7 hb7 => ?_
    have HB7 := Lib.hid (HB6.out.trans (hb7.mono HB6.out.size))
    clear hb7
    go_wp2
    go_ret
    exact ⟨rfl, HB7.out⟩
end Go.Proofs.Ythbahfmcmbjglaa
