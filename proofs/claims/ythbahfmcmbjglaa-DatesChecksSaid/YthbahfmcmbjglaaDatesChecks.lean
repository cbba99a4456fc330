import Derived.Test.YthbahfmcmbjglaaQu
namespace Go.Proofs.Ythbahfmcmbjglaa
open Go.RowKit

theorem eqB_refl (n : Nat) (f : Nat → Int) : eqB n n f f = true := by
  unfold eqB
  rw [allB_t (fun g _ => by simp [eqP])]
  simp

set_option maxHeartbeats 2000000 in
set_option maxRecDepth 1000000 in
theorem datesChecks_walk (A : Option Addr) (n c : Nat) (J : Nat → Nat → Int) (B : Option Addr) (m c2 : Nat) (p : Nat → Nat → Int) (W : World) (h : ArgK 4 W A n c J) (hf : ArgK 3 W B m c2 p) : TrueBelow 6 #[.slice A n c, .slice B m c2] W := by
  have hnm : n ≤ maxLen := Nat.le_trans h.1 h.2.1
  have hmm : m ≤ maxLen := Nat.le_trans hf.1 hf.2.1
  have H := Lib.hid h.2.2.2
  have HF := Lib.hid hf.2.2.2
  have Hn := Lib.hid hnm
  have Hm := Lib.hid hmm
  clear h hf hnm hmm
  show Calls _ _ _ _ _
  go_enter Try.func6, Try.ntmps6
  go_wp2_with fail
  refine (of_any A n c J W H.out Hn.out).mono ?_
  rintro e w1 ⟨x, rfl, hx, hb1⟩
  obtain ⟨Ax, cx, rfl, -, hRx, -, hcx, hcm⟩ := hx.form
  have HX := Lib.hid hRx
  have HB1 := Lib.hid hb1
  clear hx hRx hb1 hcx hcm
  go_wp2_with fail
  refine (pieces_any B m c2 p w1 (HF.out.keep HB1.out) Hm.out).mono ?_
  rintro e w2 ⟨y, rfl, hy, hb2⟩
  obtain ⟨By, cy, rfl, -, hRy, -, hcy, hcm⟩ := hy.form
  have HY := Lib.hid hRy
  have HX2 := Lib.hid (HX.out.keep hb2)
  have HB2 := Lib.hid (HB1.out.trans (hb2.mono HB1.out.size))
  have Hm10 := Lib.hid (show min n 10 ≤ maxLen by have := Hn.out; omega)
  have Hm11 := Lib.hid (show min m 200 ≤ maxLen by have := Hm.out; omega)
  have HMin := Lib.hid (okJ_min n J)
  clear hy hRy hb2 hcy hcm
  cases hok : okJ n J with
  | false =>
    have HOk := Lib.hid hok
    clear hok
    go_wp2_with fail
    refine (check_bad By Ax (min m 200) cy (min n 10) cx p J w2 HX2.out Hm10.out (by rw [HMin.out, HOk.out])).use fun w3 hb3 => ?_
    have HB3 := Lib.hid (HB2.out.trans (hb3.mono HB2.out.size))
    clear hb3
    go_wp2_with fail
    refine (refValid_any A n c J w3 (H.out.keep HB3.out) Hn.out).use fun w4 hb4 => ?_
    have HB4 := Lib.hid (HB3.out.trans (hb4.mono HB3.out.size))
    clear hb4
    rw [HOk.out]
    go_wp2_with fail
    refine (awake_any w4).use fun w5 hb5 => ?_
    have HB5 := Lib.hid (HB4.out.trans (hb5.mono HB4.out.size))
    clear hb5
    go_wp2
    go_ret
    exact ⟨rfl, HB5.out⟩
  | true =>
    have HOk := Lib.hid hok
    have hn8 := (okJ_iff.1 hok).1
    have hmn : min n 10 = n := by omega
    rw [hmn] at HX2 HMin ⊢
    have hn8' := hn8.2
    have HWm := Lib.hid (whB_min (m := m) (p := p) hok)
    have HFew := Lib.hid (fun h : whB m n J p = true => whB_few hok h)
    clear hok hmn Hm10 hn8
    go_wp2_with fail
    refine (check_ok By Ax (min m 200) cy n cx p J w2 HY.out HX2.out HOk.out Hm11.out).mono ?_
    rintro e w3 ⟨hr, hb3⟩
    rw [HWm.out] at hr
    have HB3 := Lib.hid (HB2.out.trans (hb3.mono HB2.out.size))
    clear hb3
    rcases hr with ⟨hw, rfl⟩ | ⟨hw, g, rfl, hR⟩
    · have HW := Lib.hid hw
      clear hw
      go_wp2_with fail
      refine (refValid_any A n c J w3 (H.out.keep HB3.out) Hn.out).use fun w4 hb4 => ?_
      have HB4 := Lib.hid (HB3.out.trans (hb4.mono HB3.out.size))
      clear hb4
      rw [HOk.out]
      go_wp2_with fail
      refine (whole_any B A m c2 n c p J w4 (HF.out.keep HB4.out) (H.out.keep HB4.out) HOk.out Hm.out (fun h => by have := HFew.out h; omega)).mono ?_
      rintro e w5 ⟨hr, hb5⟩
      have HB5 := Lib.hid (HB4.out.trans (hb5.mono HB4.out.size))
      clear hb5
      rcases hr with ⟨-, rfl⟩ | ⟨hw, -⟩
      · have HEq := Lib.hid (eqB_refl 0 (fun _ => 0))
        go_wp2_with fail
        refine (equal_any none none 0 0 0 0 (fun _ => 0) (fun _ => 0) w5 Ints.zero Ints.zero (by omega) (by omega)).use fun w6 hd6 => ?_
        have HB6 := Lib.hid (HB5.out.trans (hd6.below _))
        clear hd6
        rw [HEq.out]
        go_wp2_with fail
        refine (awake_any w6).use fun w7 hb7 => ?_
        have HB7 := Lib.hid (HB6.out.trans (hb7.mono HB6.out.size))
        clear hb7
        go_wp2
        go_ret
        exact ⟨rfl, HB7.out⟩
      · rw [HW.out] at hw
        cases hw
    · have HW := Lib.hid hw
      have hfew := HFew.out hw
      have hmx : min m 200 = m := by omega
      rw [hmx] at hR
      have HR := Lib.hid hR
      have HEq := Lib.hid (eqB_refl n (enF p m))
      clear hw hR
      go_wp2_with fail
      refine (refValid_any A n c J w3 (H.out.keep HB3.out) Hn.out).use fun w4 hb4 => ?_
      have HB4 := Lib.hid (HB3.out.trans (hb4.mono HB3.out.size))
      have HR4 := Lib.hid (HR.out.keep hb4)
      clear hb4
      rw [HOk.out]
      go_wp2_with fail
      refine (whole_any B A m c2 n c p J w4 (HF.out.keep HB4.out) (H.out.keep HB4.out) HOk.out Hm.out (fun h => by have := HFew.out h; omega)).mono ?_
      rintro e w5 ⟨hr, hb5⟩
      have HB5 := Lib.hid (HB4.out.trans (hb5.mono HB4.out.size))
      have HR5 := Lib.hid (HR4.out.keep hb5)
      clear hb5
      rcases hr with ⟨hw, -⟩ | ⟨-, g2, rfl, hR2⟩
      · rw [HW.out] at hw
        cases hw
      · have HS5 := Lib.hid hR2
        clear hR2
        go_wp2_with fail
        refine (equal_any _ _ n n n n (enF p m) (enF p m) w5 HR5.out.ints HS5.out.ints (by omega) (by omega)).use fun w6 hd6 => ?_
        have HB6 := Lib.hid (HB5.out.trans (hd6.below _))
        clear hd6
        rw [HEq.out]
        go_wp2_with fail
        refine (awake_any w6).use fun w7 hb7 => ?_
        have HB7 := Lib.hid (HB6.out.trans (hb7.mono HB6.out.size))
        clear hb7
        go_wp2
        go_ret
        exact ⟨rfl, HB7.out⟩
end Go.Proofs.Ythbahfmcmbjglaa
