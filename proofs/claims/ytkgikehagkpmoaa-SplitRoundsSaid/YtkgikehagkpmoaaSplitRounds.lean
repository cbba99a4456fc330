import Derived.Test.YtkgikehagkpmoaaRd4
import Derived.Test.YtkgikehagkpmoaaDivd
import Derived.Test.YtkgikehagkpmoaaAwake
import Derived.Test.YtkgikehagkpmoaaFew
import Derived.Test.YtkgikehagkpmoaaWorth
namespace Go.Proofs.Ytkgikehagkpmoaa
open Go.RowKit

theorem short9r (n : Nat) (L : Nat → Nat) : Short n (fun i => min (L i) 9) := fun _ _ => Nat.min_le_right _ _
theorem RoundsF (A : Option Addr) (k n m c : Nat) (L : Nat → Nat) (v : Nat → Nat → Int) (w : World) (h : Rows2 w A k L v) (hn : k ≤ 9) (hL : Short k L) (hok : okVals k L v = true) (hk : k = n) (hm : L 0 = m) :
    Calls Try.prog 12 #[.slice A k c] w fun e w' => ∃ Ax cx D, e = .returned (.tuple #[.slice Ax m cx, .int .i64 0]) ∧ Ints w' Ax m D ∧ Own n m D ∧ Ef1 n m v D ∧ Below w.heap.size w w' := by
  subst hk hm
  exact Rounds_ok A k c L v w h hn hL hok
theorem CyclesF (A : Option Addr) (k n m c : Nat) (L : Nat → Nat) (v : Nat → Nat → Int) (w : World) (h : Rows2 w A k L v) (hn : k ≤ 9) (hL : Short k L) (hok : okVals k L v = true) (hk : k = n) (hm : L 0 = m) :
    Calls Try.prog 14 #[.slice A k c] w fun e w' => ∃ Ax cx D, e = .returned (.tuple #[.slice Ax m cx, .int .i64 0]) ∧ Ints w' Ax m D ∧ Own n m D ∧ Ef1 n m v D ∧ Below w.heap.size w w' := by
  subst hk hm
  exact Cycles_ok A k c L v w h hn hL hok
theorem ShareR {A : Option Addr} {m c k mm : Nat} {f : Nat → Int} {n : Int} {w : World} (h : Ints w A mm f) (hmm : mm = m) (hok : okParts m f n = true) (hk : n = ((k + 1 : Nat) : Int)) :
    Calls Try.prog 20 #[.slice A mm c, .int .i64 n] w fun e w' => e = .returned (.tuple #[.int .i64 (shareN m f k), .int .i64 0]) ∧ Below w.heap.size w w' := by
  subst hmm
  exact Share_ok A mm c f k n w h hok hk

set_option maxHeartbeats 1000000 in
set_option maxRecDepth 1000000 in
theorem splitRounds_walk (A : Option Addr) (n c : Nat) (L : Nat → Nat) (v : Nat → Nat → Int) (W : World) (hv : ArgR W A n c L v) :
    Calls Try.prog 9 #[.slice A n c] W fun e W' => e = .returned (.bool true) ∧ Below W.heap.size W W' := by
  have hn9 : min n 6 ≤ 9 := by omega
  cases hok : okVals n L v with
  | false =>
    have HOk := Lib.hid hok
    have HF : Hid (okVals (min n 6) (fun i => min (L i) 9) v = false) := Lib.hid (okVals_few.trans hok)
    clear hok
    go_enter Try.func9, Try.ntmps9
    go_wp2_with fail
    refine (few_any A n c L v _ hv).mono ?_
    rintro e w1 ⟨x, rfl, hx, hb1⟩
    obtain ⟨A1, c1, rfl, hR1, -⟩ := hx.rows
    have Hb1 := Lib.hid hb1
    have HR1 := Lib.hid hR1
    clear hb1 hx hR1
    go_wp2_with fail
    refine (Rounds_bad _ _ _ _ v _ HR1.out hn9 (short9r _ _) HF.out).mono ?_
    rintro e w2 ⟨rfl, rfl⟩
    go_wp2_with fail
    refine (few_any A n c L v _ (hv.below Hb1.out)).mono ?_
    rintro e w2 ⟨x, rfl, hx, hb2⟩
    obtain ⟨A2, c2, rfl, hR2, -⟩ := hx.rows
    have Hb2 := Lib.hid (Hb1.out.trans (hb2.mono Hb1.out.size))
    have HR2 := Lib.hid hR2
    clear hb2 hx hR2
    go_wp2_with fail
    refine (Cycles_bad _ _ _ _ v _ HR2.out hn9 (short9r _ _) HF.out).mono ?_
    rintro e w3 ⟨rfl, rfl⟩
    go_wp2_with fail
    refine (awake_any _).mono ?_
    rintro e w4 ⟨rfl, hb4⟩
    have Hb4 := Lib.hid (Hb2.out.trans (hb4.mono Hb2.out.size))
    clear hb4
    go_wp2
    go_ret
    exact ⟨rfl, Hb4.out⟩
  | true =>
    obtain ⟨h1, h2, h3, h4, h5, h6⟩ := okVals_of hok
    have HOk := Lib.hid hok
    have HF : Hid (okVals (min n 6) (fun i => min (L i) 9) v = true) := Lib.hid (okVals_few.trans hok)
    have hmin : min n 6 = n := by omega
    have HMin := Lib.hid hmin
    have hL0 : (fun i => min (L i) 9) 0 = L 0 := Nat.min_eq_left (by omega)
    have HL0 := Lib.hid hL0
    have HMw := Lib.hid (okVals_mat hv.rows hok)
    have H6 := Lib.hid h6
    have H5 := Lib.hid h5
    have HV := Lib.hid hv
    obtain ⟨bv, ov, Rv0, cv0, rfl, -, -⟩ := hv.rows.at (show 0 < n by omega)
    clear hok hmin hL0 h5 h6 hv
    go_enter Try.func9, Try.ntmps9
    go_wp2_with fail
    refine (few_any _ n c L v _ HV.out).mono ?_
    rintro e w1 ⟨x, rfl, hx, hb1⟩
    obtain ⟨A1, c1, rfl, hR1, -⟩ := hx.rows
    have Hb1 := Lib.hid hb1
    have HR1 := Lib.hid hR1
    clear hb1 hx hR1
    go_wp2_with fail
    refine (RoundsF A1 (min n 6) n (L 0) c1 _ v _ HR1.out hn9 (short9r _ _) HF.out HMin.out HL0.out).mono ?_
    rintro e w2 ⟨Aa, ca, Da, rfl, hIa, hOa, hEa, hb2⟩
    have Hb2 := Lib.hid (Hb1.out.trans (hb2.mono Hb1.out.size))
    have HIa2 := Lib.hid hIa
    have HOa := Lib.hid hOa
    have HEa := Lib.hid hEa
    clear hb2 hIa hOa hEa
    go_wp2_with fail
    refine (few_any _ n c L v _ (HV.out.below Hb2.out)).mono ?_
    rintro e w3 ⟨x, rfl, hx, hb3⟩
    obtain ⟨A3, c3, rfl, hR3, -⟩ := hx.rows
    have Hb3 := Lib.hid (Hb2.out.trans (hb3.mono Hb2.out.size))
    have HIa3 := Lib.hid (HIa2.out.keep hb3)
    have HR3 := Lib.hid hR3
    clear hb3 hx hR3
    go_wp2_with fail
    refine (CyclesF A3 (min n 6) n (L 0) c3 _ v _ HR3.out hn9 (short9r _ _) HF.out HMin.out HL0.out).mono ?_
    rintro e w4 ⟨Ab, cb, Db, rfl, hIb, hOb, hEb, hb4⟩
    have Hb4 := Lib.hid (Hb3.out.trans (hb4.mono Hb3.out.size))
    have HIa4 := Lib.hid (HIa3.out.keep hb4)
    have HIb4 := Lib.hid hIb
    have HOb := Lib.hid hOb
    have HEb := Lib.hid hEb
    clear hb4 hIb hOb hEb
    go_wp2_with fail
    refine (rvalid_any _ _ _ L v _ (HV.out.below Hb4.out)).mono ?_
    rintro e w5 ⟨rfl, rfl⟩
    rw [HOk.out]
    have HDa : Hid (divB n (L 0) L Da = true) := Lib.hid (decide_eq_true ⟨rfl, HOa.out⟩)
    have HDb : Hid (divB n (L 0) L Db = true) := Lib.hid (decide_eq_true ⟨rfl, HOb.out⟩)
    go_wp2_with fail
    refine (rdivision_any _ _ _ _ _ _ L v _ _ (HV.out.below Hb4.out).rows (by omega) h2 HIa4.out (by omega)).mono ?_
    rintro e w6 ⟨rfl, rfl⟩
    rw [HDa.out]
    go_wp2_with fail
    refine (rdivision_any _ _ _ _ _ _ L v _ _ (HV.out.below Hb4.out).rows (by omega) h2 HIb4.out (by omega)).mono ?_
    rintro e w6 ⟨rfl, rfl⟩
    rw [HDb.out]
    go_wp2_with fail
    have HBig := Lib.hid (H6.out.le (u' := 100000) (by omega))
    go_loopw [54] (fun x wr => ∃ k : Nat, k ≤ n ∧ x = .int .i64 k ∧ Below w4.heap.size w4 wr) (fun x _ => n - (intOf x).toNat)
    case atStart => exact ⟨0, Nat.zero_le _, rfl, Below.refl _ _⟩
    case round =>
      obtain ⟨k, hk, rfl, hbel⟩ := hrel
      by_cases hlt : k < n
      · have HbW := Lib.hid (Hb4.out.trans (hbel.mono Hb4.out.size))
        obtain ⟨bk, ok, Ak, ck, hAe, hck, hRk⟩ := (HV.out.below HbW.out).at hlt
        injection hAe with hAe
        injection hAe with ha1 ha2
        subst ha1 ha2
        have hLk := H5.out k hlt
        have hbk := H6.out k hlt
        have hok2 : okParts (L 0) (v k) (2 * (n : Int) - 1) = true := by
          simp only [okParts, okRow, Bool.and_eq_true, decide_eq_true_eq]
          exact ⟨⟨h3, h4, hbk⟩, by omega, by omega⟩
        have HOk2 := Lib.hid hok2
        have HK2 : Hid (2 * (n : Int) - 1 = ((2 * n - 2 + 1 : Nat) : Int)) := Lib.hid (by omega)
        have HSa := Lib.hid (ef1_share H6.out h1 h2 HOa.out HEa.out hlt)
        have HSb := Lib.hid (ef1_share H6.out h1 h2 HOb.out HEb.out hlt)
        have HRk := Lib.hid hRk
        have HLk : Hid (min (L k) 9 = (L 0)) := Lib.hid (by rw [hLk]; omega)
        have Hbel := Lib.hid hbel
        clear hRk hLk hbk hok2 hbel
        go_wp2_with fail
        refine (list_any Ak (L k) ck (v k) _ HRk.out).mono ?_
        rintro e w6 ⟨x, rfl, hx, hb6⟩
        obtain ⟨A6, c6, rfl, hI6⟩ := hx.sl0
        have Hb6 := Lib.hid (Hbel.out.trans (hb6.mono Hbel.out.size))
        have HI6 := Lib.hid hI6
        clear hb6 hx hI6
        go_wp2_with fail
        refine (ShareR HI6.out HLk.out HOk2.out HK2.out).mono ?_
        rintro e w7 ⟨rfl, hb7⟩
        have Hb7 := Lib.hid (Hb6.out.trans (hb7.mono Hb6.out.size))
        clear hb7
        have hsa := HSa.out
        have hsb := HSb.out
        generalize shareN (L 0) (v k) (2 * n - 2) = s at *
        go_wp2_with fail
        refine (lworth_any _ _ n (L 0) _ _ v Da k k _ (HMw.out.keep (Hb4.out.trans (Hb7.out.mono Hb4.out.size))) (HIa4.out.keep Hb7.out) HBig.out (by omega) hlt (by omega)).mono ?_
        rintro e w8 ⟨rfl, rfl⟩
        generalize wTo (v k) Da (k : Int) (L 0) = xa at *
        go_wp2_with fail
        refine (lworth_any _ _ n (L 0) _ _ v Db k k _ (HMw.out.keep (Hb4.out.trans (Hb7.out.mono Hb4.out.size))) (HIb4.out.keep Hb7.out) HBig.out (by omega) hlt (by omega)).mono ?_
        rintro e w8 ⟨rfl, rfl⟩
        generalize wTo (v k) Db (k : Int) (L 0) = xb at *
        go_wp2
        go_roundw
        case rel => exact ⟨k + 1, by omega, by go_num, Hb7.out⟩
        case measure => simp [intOf]; omega
      · obtain rfl : n = k := by omega
        have HbW := Lib.hid (Hb4.out.trans (hbel.mono Hb4.out.size))
        clear hbel
        go_wp2_with fail
        refine (awake_any _).mono ?_
        rintro e w9 ⟨rfl, hb9⟩
        have Hb9 := Lib.hid (HbW.out.trans (hb9.mono HbW.out.size))
        clear hb9
        go_wp2
        go_ret
        exact ⟨rfl, Hb9.out⟩
end Go.Proofs.Ytkgikehagkpmoaa
