import Derived.Test.YtkgikehagkpmoaaShrR
import Derived.Test.YtkgikehagkpmoaaAwake
import Derived.Test.YtkgikehagkpmoaaFew
namespace Go.Proofs.Ytkgikehagkpmoaa
open Go.RowKit

theorem Share_few3 {A : Option Addr} {m c k mm : Nat} {f : Nat → Int} {n : Int} {w : World} (h : Ints w A mm f) (hmm : mm = m) (hok : okParts m f n = true) (hk : n = ((k + 1 : Nat) : Int)) :
    Calls Try.prog 20 #[.slice A mm c, .int .i64 n] w fun e w' => e = .returned (.tuple #[.int .i64 (shareN m f k), .int .i64 0]) ∧ Below w.heap.size w w' := by
  subst hmm
  exact Share_ok A mm c f k n w h hok hk
theorem Split_few3 {A : Option Addr} {m c k mm : Nat} {f : Nat → Int} {n : Int} {w : World} (h : Ints w A mm f) (hmm : mm = m) (hok : okParts m f n = true) (hk : n = ((k + 1 : Nat) : Int)) :
    Calls Try.prog 22 #[.slice A mm c, .int .i64 n] w fun e w' => ∃ Ax cx D, e = .returned (.tuple #[.slice Ax m cx, .int .i64 0]) ∧ Below w.heap.size w w' ∧ Ints w' Ax m D ∧ Own (k + 1) m D ∧ lowT (wOf f D m) k = shareN m f k := by
  subst hmm
  exact Split_ok A mm c f k n w h hok hk

set_option maxHeartbeats 1000000 in
set_option maxRecDepth 1000000 in
theorem splitShares_walk (A : Option Addr) (m c : Nat) (f : Nat → Int) (n : Int) (W : World) (hv : ArgI W A m c f) (_hn : (Lit.int .i64 n).wf = true) :
    Calls Try.prog 4 #[.slice A m c, .int .i64 n] W fun e W' => e = .returned (.bool true) ∧ Below W.heap.size W W' := by
  have HV := Lib.hid hv
  have HM63 : Hid (m ≤ 9223372036854775807) := Lib.hid (by have := hv.1; have := hv.2.1; unfold maxLen at *; omega)
  clear hv _hn
  cases hok : okParts m f n with
  | false =>
    have HOk := Lib.hid hok
    have HF : Hid (okParts (min m 9) f n = false) := Lib.hid (okParts_few.trans hok)
    clear hok
    go_enter Try.func4, Try.ntmps4
    go_wp2_with fail
    refine (list_any A m c f _ HV.out).mono ?_
    rintro e w1 ⟨x, rfl, hx, hb1⟩
    obtain ⟨A1, c1, rfl, hI1⟩ := hx.sl0
    have Hb1 := Lib.hid hb1
    have HI1 := Lib.hid hI1
    clear hb1 hx hI1
    go_wp2_with fail
    refine (Share_bad _ _ _ f n _ HI1.out (by omega) HF.out).mono ?_
    rintro e w2 ⟨rfl, rfl⟩
    go_wp2_with fail
    refine (list_any A m c f _ (HV.out.below Hb1.out)).mono ?_
    rintro e w2 ⟨x, rfl, hx, hb2⟩
    obtain ⟨A2, c2, rfl, hI2⟩ := hx.sl0
    have Hb2 := Lib.hid (Hb1.out.trans (hb2.mono Hb1.out.size))
    have HI2 := Lib.hid hI2
    clear hb2 hx hI2
    go_wp2_with fail
    refine (Split_bad _ _ _ f n _ HI2.out (by omega) HF.out).mono ?_
    rintro e w3 ⟨rfl, rfl⟩
    go_wp2_with fail
    refine (rgoods_any A m c f n _ (HV.out.below Hb2.out).2.2.2 HM63.out).mono ?_
    rintro e w3 ⟨rfl, rfl⟩
    rw [HOk.out]
    go_wp2_with fail
    refine (awake_any _).mono ?_
    rintro e w4 ⟨rfl, hb4⟩
    have Hb4 := Lib.hid (Hb2.out.trans (hb4.mono Hb2.out.size))
    clear hb4
    go_wp2
    go_ret
    exact ⟨rfl, Hb4.out⟩
  | true =>
    obtain ⟨k, hk, hk6, hm0, hm7, hb⟩ := okParts_of hok
    have HOk := Lib.hid hok
    have HK := Lib.hid hk
    clear hok hk hb
    go_enter Try.func4, Try.ntmps4
    go_wp2_with fail
    refine (list_any A m c f _ HV.out).mono ?_
    rintro e w1 ⟨x, rfl, hx, hb1⟩
    obtain ⟨A1, c1, rfl, hI1⟩ := hx.sl0
    have Hb1 := Lib.hid hb1
    have HI1 := Lib.hid hI1
    clear hb1 hx hI1
    go_wp2_with fail
    refine (Share_few3 HI1.out (show min m 9 = m by omega) HOk.out HK.out).mono ?_
    rintro e w2 ⟨rfl, hb2⟩
    have Hb2 := Lib.hid (Hb1.out.trans (hb2.mono Hb1.out.size))
    clear hb2
    go_wp2_with fail
    refine (list_any A m c f _ (HV.out.below Hb2.out)).mono ?_
    rintro e w3 ⟨x, rfl, hx, hb3⟩
    obtain ⟨A3, c3, rfl, hI3⟩ := hx.sl0
    have Hb3 := Lib.hid (Hb2.out.trans (hb3.mono Hb2.out.size))
    have HI3 := Lib.hid hI3
    clear hb3 hx hI3
    go_wp2_with fail
    refine (Split_few3 HI3.out (show min m 9 = m by omega) HOk.out HK.out).mono ?_
    rintro e w4 ⟨Ad, cd, D, rfl, hb4, hID, hOwn, hlow⟩
    have Hb4 := Lib.hid (Hb3.out.trans (hb4.mono Hb3.out.size))
    have HID4 := Lib.hid hID
    have HOwn := Lib.hid hOwn
    have HLow := Lib.hid hlow
    clear hb4 hID hOwn hlow
    go_wp2_with fail
    refine (rgoods_any A m c f n _ (HV.out.below Hb4.out).2.2.2 HM63.out).mono ?_
    rintro e w5 ⟨rfl, rfl⟩
    rw [HOk.out]
    go_wp2_with fail
    refine (rshare_any A m c k f n _ (HV.out.below Hb4.out) HOk.out HK.out).mono ?_
    rintro e w6 ⟨rfl, hb6⟩
    have Hb6 := Lib.hid (Hb4.out.trans (hb6.mono Hb4.out.size))
    have HID6 := Lib.hid (HID4.out.keep hb6)
    clear hb6
    have hbq : (shareN m f k == shareN m f k) = true := by simp
    go_wp2_with fail
    refine (risSplit_ok A Ad m c cd k f D n _ (HV.out.below Hb6.out) HID6.out HOk.out HK.out HOwn.out HLow.out).mono ?_
    rintro e w7 ⟨rfl, hb7⟩
    have Hb7 := Lib.hid (Hb6.out.trans (hb7.mono Hb6.out.size))
    clear hb7
    go_wp2_with fail
    refine (awake_any _).mono ?_
    rintro e w8 ⟨rfl, hb8⟩
    have Hb8 := Lib.hid (Hb7.out.trans (hb8.mono Hb7.out.size))
    clear hb8
    go_wp2
    go_ret
    exact ⟨rfl, Hb8.out⟩
end Go.Proofs.Ytkgikehagkpmoaa
