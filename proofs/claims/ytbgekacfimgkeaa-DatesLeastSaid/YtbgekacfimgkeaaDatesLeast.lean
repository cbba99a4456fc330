import Derived.Test.YtbgekacfimgkeaaKh
import Derived.Test.YtbgekacfimgkeaaQi
import Derived.Test.YtbgekacfimgkeaaQo
import Derived.Test.YtbgekacfimgkeaaEq
namespace Go.Proofs.Ytbgekacfimgkeaa
open Go.RowKit

theorem eqB_refl (n : Nat) (f : Nat → Int) : eqB n n f f = true := by
  unfold eqB
  rw [allB_t (fun g _ => by simp [eqP])]
  simp
theorem bfB_min (n m : Nat) (F : Nat → Nat → Int) : bfB n (min m 18) F = bfB n m F := by
  by_cases h : m ≤ 18
  · rw [Nat.min_eq_left h]
  · unfold bfB
    rw [decide_eq_false (show ¬ min m 18 ≤ 16 by omega), decide_eq_false (show ¬ m ≤ 16 by omega), Bool.false_and, Bool.false_and]

set_option maxHeartbeats 4000000 in
set_option maxRecDepth 1000000 in
theorem datesLeast_walk (A : Option Addr) (n c : Nat) (J : Nat → Nat → Int) (B : Option Addr) (m c2 : Nat) (F : Nat → Nat → Int) (W : World) (h : ArgK 4 W A n c J) (hf : ArgK 2 W B m c2 F) : TrueBelow 5 #[.slice A n c, .slice B m c2] W := by
  have hnm : n ≤ maxLen := Nat.le_trans h.1 h.2.1
  have hmm : m ≤ maxLen := Nat.le_trans hf.1 hf.2.1
  have H := Lib.hid h.2.2.2
  have HF := Lib.hid hf
  have Hn := Lib.hid hnm
  have Hm := Lib.hid hmm
  have Hm10 := Lib.hid (show min n 10 ≤ maxLen by omega)
  have Hm18 := Lib.hid (show min m 18 ≤ maxLen by omega)
  have HMin := Lib.hid (okJ_min n J)
  have HMb := Lib.hid (bfB_min n m F)
  clear h hf hnm hmm
  show Calls _ _ _ _ _
  go_enter Try.func5, Try.ntmps5
  go_wp2_with fail
  refine (of_any A n c J W H.out Hn.out).mono ?_
  rintro e w1 ⟨x, rfl, hx, hb1⟩
  obtain ⟨Ax, cx, rfl, -, hRx, -, -, -⟩ := hx.form
  have HX := Lib.hid hRx
  have HB1 := Lib.hid hb1
  clear hx hRx hb1
  go_wp2_with fail
  refine (pairs_any B m c2 F w1 (HF.out.below HB1.out)).mono ?_
  rintro e w2 ⟨y, rfl, hy, hb2⟩
  obtain ⟨By, cby, rfl, -, hRb, -⟩ := hy.form
  have HY := Lib.hid hRb
  have HX2 := Lib.hid (HX.out.keep hb2)
  have HB2 := Lib.hid (HB1.out.trans (hb2.mono HB1.out.size))
  clear hy hRb hb2
  cases hok : okJ n J with
  | false =>
    have HOk := Lib.hid hok
    clear hok
    go_wp2_with fail
    refine (least_bad Ax By (min n 10) cx (min m 18) cby J w2 HX2.out Hm10.out (by rw [HMin.out, HOk.out])).use fun w3 hb3 => ?_
    have HB3 := Lib.hid (HB2.out.trans (hb3.mono HB2.out.size))
    clear hb3
    go_wp2_with fail
    refine (refValid_any A n c J w3 (H.out.keep HB3.out) Hn.out).use fun w4 hb4 => ?_
    have HB4 := Lib.hid (HB3.out.trans (hb4.mono HB3.out.size))
    clear hb4
    rw [HOk.out]
    go_wp2_with fail
    refine (awake_any w4).use fun w5 hb5 => ?_
    have HB5 := Lib.hid (HB4.out.trans (hb5.mono HB4.out.size))
    clear hb5
    go_wp2
    go_ret
    exact ⟨rfl, HB5.out⟩
  | true =>
    have HOk := Lib.hid hok
    obtain ⟨⟨hn1, hn8⟩, -⟩ := okJ_iff.1 hok
    have hmn : min n 10 = n := by omega
    rw [hmn] at HX2 ⊢
    clear hok hmn
    cases hbf : bfB n m F with
    | false =>
      have HBf := Lib.hid hbf
      clear hbf
      go_wp2_with fail
      refine (least_bf Ax By n cx (min m 18) cby J F w2 HX2.out HY.out Hm18.out HOk.out (by rw [HMb.out, HBf.out])).use fun w3 hb3 => ?_
      have HB3 := Lib.hid (HB2.out.trans (hb3.mono HB2.out.size))
      clear hb3
      go_wp2_with fail
      refine (refValid_any A n c J w3 (H.out.keep HB3.out) Hn.out).use fun w4 hb4 => ?_
      have HB4 := Lib.hid (HB3.out.trans (hb4.mono HB3.out.size))
      clear hb4
      rw [HOk.out]
      go_wp2_with fail
      refine (refBefores_any A B n c m c2 F w4 (HF.out.below HB4.out).2.2.2 ⟨hn1, hn8⟩ Hm.out).use fun w5 hb5 => ?_
      have HB5 := Lib.hid (HB4.out.trans (hb5.mono HB4.out.size))
      clear hb5
      rw [HBf.out]
      go_wp2_with fail
      refine (awake_any w5).use fun w6 hb6 => ?_
      have HB6 := Lib.hid (HB5.out.trans (hb6.mono HB5.out.size))
      clear hb6
      go_wp2
      go_ret
      exact ⟨rfl, HB6.out⟩
    | true =>
      have HBf := Lib.hid hbf
      have hm16 := (bf_rng hbf).1
      have hmm : min m 18 = m := by omega
      rw [hmm] at HY Hm18 ⊢
      clear hbf hmm HMb HMin
      go_wp2_with fail
      refine (least_ok Ax By n cx m cby J F w2 HX2.out HY.out Hm18.out HOk.out HBf.out).mono ?_
      rintro e w3 ⟨hres, hb3⟩
      have HB3 := Lib.hid (HB2.out.trans (hb3.mono HB2.out.size))
      have HRef := Lib.hid (fun w' (hb : Below w3.heap.size w3 w') => refLeast_ok A B n c m c2 J F w' (H.out.keep (HB3.out.trans (hb.mono HB3.out.size))) (HF.out.below (HB3.out.trans (hb.mono HB3.out.size))).2.2.2 HOk.out HBf.out)
      have hres2 : (dT n J (nF F m) 0 = 161 ∧ e = .returned (.tuple #[.slice none 0 0, .int .i64 0, .int .i64 6])) ∨ (dT n J (nF F m) 0 ≠ 161 ∧ ∃ v, e = .returned (.tuple #[v, .int .i64 (dT n J (nF F m) 0), .int .i64 0]) ∧ OwnL w3 w2.heap.size v (frF n J (nF F m) (dT n J (nF F m)) (dT n J (nF F m) 0) n).2) := hres
      clear hb3 hres
      generalize (frF n J (nF F m) (dT n J (nF F m)) (dT n J (nF F m) 0) n).2 = L at *
      generalize dT n J (nF F m) 0 = ls at *
      rcases hres2 with ⟨h1, rfl⟩ | ⟨h1, v, rfl, hv⟩
      · have HL1 := Lib.hid h1
        clear h1
        go_wp2_with fail
        refine (refValid_any A n c J w3 (H.out.keep HB3.out) Hn.out).use fun w4 hb4 => ?_
        have HC4 := Lib.hid hb4
        have HB4 := Lib.hid (HB3.out.trans (hb4.mono HB3.out.size))
        clear hb4
        rw [HOk.out]
        go_wp2_with fail
        refine (refBefores_any A B n c m c2 F w4 (HF.out.below HB4.out).2.2.2 ⟨hn1, hn8⟩ Hm.out).use fun w5 hb5 => ?_
        have HC5 := Lib.hid (HC4.out.trans (hb5.mono HC4.out.size))
        clear hb5
        rw [HBf.out]
        go_wp2_with fail
        refine (HRef.out w5 HC5.out).mono ?_
        rintro e w6 ⟨⟨-, rfl⟩ | ⟨h2, -⟩, hb6⟩
        · have HC6 := Lib.hid (HC5.out.trans (hb6.mono HC5.out.size))
          have HEq := Lib.hid (equal_any none none 0 0 0 0 (fun _ => 0) (fun _ => 0) w6 Ints.zero Ints.zero (by omega) (by omega))
          clear hb6
          go_wp2_with fail
          refine HEq.out.use fun w7 hd7 => ?_
          have HC7 := Lib.hid (HC6.out.trans (hd7.below _))
          clear hd7
          rw [eqB_refl]
          go_wp2_with fail
          refine (awake_any w7).use fun w8 hb8 => ?_
          have HB8 := Lib.hid (HB3.out.trans ((HC7.out.trans (hb8.mono HC7.out.size)).mono HB3.out.size))
          clear hb8
          go_wp2
          go_ret
          exact ⟨rfl, HB8.out⟩
        · exact absurd HL1.out h2
      · have HL1 := Lib.hid h1
        obtain ⟨A1, c1, rfl, -, hI1, -, -⟩ := hv.form
        have HI1 := Lib.hid hI1
        clear h1 hv hI1
        go_wp2_with fail
        refine (refValid_any A n c J w3 (H.out.keep HB3.out) Hn.out).use fun w4 hb4 => ?_
        have HC4 := Lib.hid hb4
        have HB4 := Lib.hid (HB3.out.trans (hb4.mono HB3.out.size))
        clear hb4
        rw [HOk.out]
        go_wp2_with fail
        refine (refBefores_any A B n c m c2 F w4 (HF.out.below HB4.out).2.2.2 ⟨hn1, hn8⟩ Hm.out).use fun w5 hb5 => ?_
        have HC5 := Lib.hid (HC4.out.trans (hb5.mono HC4.out.size))
        clear hb5
        rw [HBf.out]
        go_wp2_with fail
        refine (HRef.out w5 HC5.out).mono ?_
        rintro e w6 ⟨⟨h2, -⟩ | ⟨-, b, k, f, rfl, hI, rfl⟩, hb6⟩
        · exact absurd h2 HL1.out
        · have HC6 := Lib.hid (HC5.out.trans (hb6.mono HC5.out.size))
          rw [lst_len] at HI1 ⊢
          have HEq := Lib.hid (equal_any A1 (some b) n n c1 k f f w6 ((HI1.out.congr (fun q hq => lst_getD _ _ _ hq)).keep HC6.out) hI (by omega) (by omega))
          have hbb := beq_t (rfl : ls = ls)
          clear hb6 hI
          go_wp2_with fail
          refine HEq.out.use fun w7 hd7 => ?_
          have HC7 := Lib.hid (HC6.out.trans (hd7.below _))
          clear hd7
          rw [eqB_refl]
          go_wp2_with fail
          refine (awake_any w7).use fun w8 hb8 => ?_
          have HB8 := Lib.hid (HB3.out.trans ((HC7.out.trans (hb8.mono HC7.out.size)).mono HB3.out.size))
          clear hb8
          go_wp2
          go_ret
          exact ⟨rfl, HB8.out⟩
end Go.Proofs.Ytbgekacfimgkeaa
