import Derived.Test.YthbahfmcmbjglaaQi
import Derived.Test.YthbahfmcmbjglaaQo
namespace Go.Proofs.Ythbahfmcmbjglaa
open Go.RowKit

theorem ordB_min (m : Nat) (f : Nat → Int) (n : Nat) (hn : n ≤ 8) : ordB (min m 10) f n = ordB m f n := by
  by_cases h : m ≤ 10
  · rw [Nat.min_eq_left h]
  · unfold ordB
    rw [decide_eq_false (show ¬ min m 10 = n by omega), decide_eq_false (show ¬ m = n by omega), Bool.false_and, Bool.false_and]
theorem eqB_self (n : Nat) (f : Nat → Int) : eqB n n f f = true := by
  unfold eqB
  rw [allB_t (fun g _ => by simp [eqP])]
  simp

set_option maxHeartbeats 2000000 in
set_option maxRecDepth 1000000 in
theorem datesEnds_walk (A : Option Addr) (n c : Nat) (J : Nat → Nat → Int) (B : Option Addr) (m c2 : Nat) (f : Nat → Int) (W : World) (h : ArgK 4 W A n c J) (hf : ArgI W B m c2 f) : TrueBelow 3 #[.slice A n c, .slice B m c2] W := by
  have hnm : n ≤ maxLen := Nat.le_trans h.1 h.2.1
  have hmm : m ≤ maxLen := Nat.le_trans hf.1 hf.2.1
  have H := Lib.hid h.2.2.2
  have HF := Lib.hid hf
  have Hn := Lib.hid hnm
  have Hm := Lib.hid hmm
  clear h hf hnm hmm
  show Calls _ _ _ _ _
  go_enter Try.func3, Try.ntmps3
  go_wp2_with fail
  refine (of_any A n c J W H.out Hn.out).mono ?_
  rintro e w1 ⟨x, rfl, hx, hb1⟩
  obtain ⟨Ax, cx, rfl, -, hRx, -, hcx, hcm⟩ := hx.form
  have HX := Lib.hid hRx
  have HB1 := Lib.hid hb1
  clear hx hRx hb1 hcx hcm
  go_wp2_with fail
  refine (list_any B m c2 f w1 (HF.out.below HB1.out)).mono ?_
  rintro e w2 ⟨y, rfl, hy, hb2⟩
  obtain ⟨By, cy, rfl, -, hIy, -, hcy⟩ := hy.form
  rw [lst_len] at hIy hcy ⊢
  have HY := Lib.hid (hIy.congr (fun k hk => lst_getD _ _ _ hk))
  have HX2 := Lib.hid (HX.out.keep hb2)
  have HB2 := Lib.hid (HB1.out.trans (hb2.mono HB1.out.size))
  have Hcy := Lib.hid hcy
  have Hm10 := Lib.hid (show min n 10 ≤ maxLen by have := Hn.out; omega)
  have Hm11 := Lib.hid (show min m 10 ≤ maxLen by have := Hm.out; omega)
  have HMin := Lib.hid (okJ_min n J)
  clear hy hIy hb2 hcy
  cases hok : okJ n J with
  | false =>
    have HOk := Lib.hid hok
    clear hok
    go_wp2_with fail
    refine (ends_bad Ax By (min n 10) cx (min m 10) cy J f w2 HX2.out HY.out Hcy.out Hm10.out Hm11.out (.inl (by rw [HMin.out, HOk.out]))).use fun w3 hb3 => ?_
    have HB3 := Lib.hid (HB2.out.trans (hb3.mono HB2.out.size))
    clear hb3
    go_wp2_with fail
    refine (refValid_any A n c J w3 (H.out.keep HB3.out) Hn.out).use fun w4 hb4 => ?_
    have HB4 := Lib.hid (HB3.out.trans (hb4.mono HB3.out.size))
    clear hb4
    rw [HOk.out]
    go_wp2_with fail
    refine (awake_any w4).use fun w5 hb5 => ?_
    have HB5 := Lib.hid (HB4.out.trans (hb5.mono HB4.out.size))
    clear hb5
    go_wp2
    go_ret
    exact ⟨rfl, HB5.out⟩
  | true =>
    have HOk := Lib.hid hok
    have hn8 := (okJ_iff.1 hok).1
    have hmn : min n 10 = n := by omega
    rw [hmn] at HX2 HMin ⊢
    have Hn8 := Lib.hid hn8
    clear hok hmn Hm10 hn8
    have HOM := Lib.hid (ordB_min m f n Hn8.out.2)
    cases hor : ordB m f n with
    | false =>
      have HOr := Lib.hid hor
      clear hor
      go_wp2_with fail
      refine (ends_bad Ax By n cx (min m 10) cy J f w2 HX2.out HY.out Hcy.out Hn.out Hm11.out (.inr (by rw [HOM.out, HOr.out]))).use fun w3 hb3 => ?_
      have HB3 := Lib.hid (HB2.out.trans (hb3.mono HB2.out.size))
      clear hb3
      go_wp2_with fail
      refine (refValid_any A n c J w3 (H.out.keep HB3.out) Hn.out).use fun w4 hb4 => ?_
      have HB4 := Lib.hid (HB3.out.trans (hb4.mono HB3.out.size))
      clear hb4
      rw [HOk.out]
      go_wp2_with fail
      refine (refIsOrder_any B m c2 n f w4 (HF.out.below HB4.out).2.2.2 Hn8.out Hm.out).use fun w5 hb5 => ?_
      have HB5 := Lib.hid (HB4.out.trans (hb5.mono HB4.out.size))
      clear hb5
      rw [HOr.out]
      go_wp2_with fail
      refine (awake_any w5).use fun w6 hb6 => ?_
      have HB6 := Lib.hid (HB5.out.trans (hb6.mono HB5.out.size))
      clear hb6
      go_wp2
      go_ret
      exact ⟨rfl, HB6.out⟩
    | true =>
      have HOr := Lib.hid hor
      have hmn : m = n := of_decide_eq_true (Bool.and_eq_true_iff.1 hor).1
      subst hmn
      have hm8 := Hn8.out.2
      have hmx : min m 10 = m := by omega
      rw [hmx] at HY Hcy ⊢
      have HEq := Lib.hid (eqB_self m (eoF J f m))
      clear hor hmx HOM Hm11
      go_wp2_with fail
      refine (ends_ok Ax By m cx m cy J f w2 HX2.out HY.out Hcy.out HOk.out HOr.out).mono ?_
      rintro e w3 ⟨g, rfl, hg, hR, hb3⟩
      have HB3 := Lib.hid (HB2.out.trans (hb3.mono HB2.out.size))
      have HR3 := Lib.hid hR
      clear hR hb3
      go_wp2_with fail
      refine (refValid_any A m c J w3 (H.out.keep HB3.out) Hn.out).use fun w4 hb4 => ?_
      have HB4 := Lib.hid (HB3.out.trans (hb4.mono HB3.out.size))
      have HR4 := Lib.hid (HR3.out.keep hb4)
      clear hb4
      rw [HOk.out]
      go_wp2_with fail
      refine (refIsOrder_any B m c2 m f w4 (HF.out.below HB4.out).2.2.2 Hn8.out Hm.out).use fun w5 hb5 => ?_
      have HB5 := Lib.hid (HB4.out.trans (hb5.mono HB4.out.size))
      have HR5 := Lib.hid (HR4.out.keep hb5)
      clear hb5
      rw [HOr.out]
      go_wp2_with fail
      refine (refEndsJ_any A B m c m c2 J f w5 (H.out.keep HB5.out) (HF.out.below HB5.out).2.2.2 HOk.out HOr.out).mono ?_
      rintro e w6 ⟨g2, rfl, hg2, hR2, hb6⟩
      have HB6 := Lib.hid (HB5.out.trans (hb6.mono HB5.out.size))
      have HR6 := Lib.hid (HR5.out.keep hb6)
      have HS6 := Lib.hid hR2
      clear hR2 hb6
      go_wp2_with fail
      refine (equal_any _ _ m m m m (eoF J f m) (eoF J f m) w6 HR6.out.ints HS6.out.ints (by omega) (by omega)).use fun w7 hd7 => ?_
      have HB7 := Lib.hid (HB6.out.trans (hd7.below _))
      rw [HEq.out]
      clear hd7
      go_wp2_with fail
      refine (awake_any w7).use fun w8 hb8 => ?_
      have HB8 := Lib.hid (HB7.out.trans (hb8.mono HB7.out.size))
      clear hb8
      go_wp2
      go_ret
      exact ⟨rfl, HB8.out⟩
end Go.Proofs.Ythbahfmcmbjglaa
