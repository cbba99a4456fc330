import Derived.Test.YtkgikehagkpmoaaParts
import Derived.Test.YtkgikehagkpmoaaAwake
import Derived.Test.YtkgikehagkpmoaaFew
namespace Go.Proofs.Ytkgikehagkpmoaa
open Go.RowKit

theorem ArgI.tail {w : World} {b o m c : Nat} {f : Nat → Int} (h : ArgI w (some ⟨b, o, none⟩) (m + 1) c f) : ArgI w (some ⟨b, o + 1, none⟩) m (c - 1) (fun j => f (j + 1)) := by
  obtain ⟨h1, h2, h3, h4⟩ := h
  exact ⟨by omega, by omega, (fun e => by cases e), fun hn => ⟨b, o + 1, rfl, fun k hk => by rw [show o + 1 + k = o + (k + 1) by omega]; exact h4.cell (by omega)⟩⟩
theorem okParts_next {m k : Nat} {f : Nat → Int} (h : okParts m f ((k + 1 : Nat) : Int) = true) (hk : k < 6) : okParts m f ((k + 1 + 1 : Nat) : Int) = true := by
  simp only [okParts, Bool.and_eq_true, decide_eq_true_eq] at h ⊢
  exact ⟨h.1, by omega, by omega⟩
theorem okParts_tail {m : Nat} {f : Nat → Int} {n : Int} (h : okParts (m + 1) f n = true) (hm : 0 < m) : okParts m (fun j => f (j + 1)) n = true := by
  simp only [okParts, okRow, Bool.and_eq_true, decide_eq_true_eq] at h ⊢
  exact ⟨⟨by omega, by omega, fun j hj => h.1.2.2 (j + 1) (by omega)⟩, h.2⟩
/-- Share of a copy. -/
theorem Share_few {A : Option Addr} {m c k mm : Nat} {f : Nat → Int} {n : Int} {w : World} (h : Ints w A mm f) (hmm : mm = m) (hok : okParts m f n = true) (hk : n = ((k + 1 : Nat) : Int)) :
    Calls Try.prog 20 #[.slice A mm c, .int .i64 n] w fun e w' => e = .returned (.tuple #[.int .i64 (shareN m f k), .int .i64 0]) ∧ Below w.heap.size w w' := by
  subst hmm
  exact Share_ok A mm c f k n w h hok hk

set_option maxHeartbeats 4000000 in
set_option maxRecDepth 1000000 in
theorem splitBound_walk (A : Option Addr) (m c : Nat) (f : Nat → Int) (n : Int) (W : World) (hv : ArgI W A m c f) (_hn : (Lit.int .i64 n).wf = true) :
    Calls Try.prog 8 #[.slice A m c, .int .i64 n] W fun e W' => e = .returned (.bool true) ∧ Below W.heap.size W W' := by
  cases hok : okParts m f n with
  | false =>
    have HF : Hid (okParts (min m 9) f n = false) := Lib.hid (okParts_few.trans hok)
    clear hok
    go_enter Try.func8, Try.ntmps8
    go_wp2_with fail
    refine (list_any A m c f _ hv).mono ?_
    rintro e w1 ⟨x, rfl, hx, hb1⟩
    obtain ⟨A1, c1, rfl, hI1⟩ := hx.sl0
    have Hb1 := Lib.hid hb1
    have HI1 := Lib.hid hI1
    clear hb1 hx hI1
    go_wp2_with fail
    refine (Share_bad _ _ _ f n _ HI1.out (by omega) HF.out).mono ?_
    rintro e w2 ⟨rfl, rfl⟩
    go_wp2_with fail
    refine (awake_any _).mono ?_
    rintro e w4 ⟨rfl, hb4⟩
    have Hb4 := Lib.hid (Hb1.out.trans (hb4.mono Hb1.out.size))
    clear hb4
    go_wp2
    go_ret
    exact ⟨rfl, Hb4.out⟩
  | true =>
    obtain ⟨k, hk, hk6, hm0, hm7, hb⟩ := okParts_of hok
    have HOk := Lib.hid hok
    have HB := Lib.hid hb
    have HK := Lib.hid hk
    have hmin : min m 9 = m := by omega
    have HMin := Lib.hid hmin
    have HV := Lib.hid hv
    obtain ⟨b, o, rfl, -⟩ := hv.2.2.2.at hm0
    have hcap := hv.1
    have hcap2 := hv.2.1
    have hn7 : n ≤ 7 := by omega
    have hn1 : 1 ≤ n := by omega
    clear hok hb hk hmin hv
    go_enter Try.func8, Try.ntmps8
    go_wp2_with fail
    refine (list_any _ m c f _ HV.out).mono ?_
    rintro e w1 ⟨x, rfl, hx, hb1⟩
    obtain ⟨A1, c1, rfl, hI1⟩ := hx.sl0
    have Hb1 := Lib.hid hb1
    have HI1 := Lib.hid hI1
    clear hb1 hx hI1
    go_wp2_with fail
    refine (Share_few HI1.out HMin.out HOk.out HK.out).mono ?_
    rintro e w2 ⟨rfl, hb2⟩
    have Hb2 := Lib.hid (Hb1.out.trans (hb2.mono Hb1.out.size))
    clear hb2
    have hsum : shareN m f k * n ≤ sumTo f m := by
      rw [HK.out]
      exact shareN_sum HB.out
    have hnn : 0 ≤ shareN m f k := shareN_nn HB.out
    have hs7 := (sumTo_bd HB.out m (Nat.le_refl _)).2
    have hprod : 0 ≤ shareN m f k * n := Int.mul_nonneg hnn (by omega)
    obtain ⟨s, hs⟩ : ∃ s, s = shareN m f k := ⟨_, rfl⟩
    rw [← hs] at hsum hnn hprod ⊢
    have HSh := Lib.hid hs
    have HSum := Lib.hid hsum
    have HProd := Lib.hid hprod
    clear hsum hprod hs
    go_wp2_with fail
    go_loop [7, 30] (fun x i => ∃ j : Nat, j ≤ m ∧ i = .int .i64 j ∧ x = .int .i64 (sumTo f j)) (fun _ i => m - (intOf i).toNat)
    case atStart => exact ⟨0, Nat.zero_le _, rfl, rfl⟩
    case round =>
      obtain ⟨j, hj, rfl, rfl⟩ := hrel
      by_cases hlt : j < m
      · have hc := ((HV.out.below Hb2.out).2.2.2).cell hlt
        obtain ⟨h1, h2⟩ := HB.out j hlt
        obtain ⟨h3, h4⟩ := sumTo_bd HB.out j (by omega)
        go_wp2
        go_round
        case rel => exact ⟨j + 1, by omega, by go_num, rfl⟩
        case measure => simp [intOf]; omega
      · obtain rfl : j = m := by omega
        have hsum := HSum.out
        have hprod := HProd.out
        by_cases hn6 : n < 7
        · have hle := shareN_less (k := k) HB.out
          rw [← HSh.out] at hle
          have HLe := Lib.hid hle
          have HNx : Hid (okParts j f (n + 1) = true) := Lib.hid (by
            have h1 := HOk.out
            have h2 := HK.out
            rw [h2] at h1 ⊢
            exact okParts_next h1 (by omega))
          have HK1 : Hid (n + 1 = ((k + 1 + 1 : Nat) : Int)) := Lib.hid (by have := HK.out; omega)
          clear hle
          go_wp2_with fail
          refine (list_any _ j c f _ (HV.out.below Hb2.out)).mono ?_
          rintro e w3 ⟨x, rfl, hx, hb3⟩
          obtain ⟨A3, c3, rfl, hI3⟩ := hx.sl0
          have Hb3 := Lib.hid (Hb2.out.trans (hb3.mono Hb2.out.size))
          have HI3 := Lib.hid hI3
          clear hb3 hx hI3
          go_wp2_with fail
          refine (Share_few HI3.out HMin.out HNx.out HK1.out).mono ?_
          rintro e w4 ⟨rfl, hb4⟩
          have Hb4 := Lib.hid (Hb3.out.trans (hb4.mono Hb3.out.size))
          have hle := HLe.out
          clear hb4 HLe
          generalize shareN j f (k + 1) = t1 at *
          by_cases hm1 : 1 < j
          · obtain ⟨j', rfl⟩ : ∃ j', j = j' + 1 := ⟨j - 1, by omega⟩
            have hle := shareN_more (k := k) HB.out
            rw [← HSh.out] at hle
            have HLe := Lib.hid hle
            have HTl := Lib.hid (okParts_tail HOk.out (by omega))
            clear hle
            go_wp2_with fail
            refine (list_any _ j' _ (fun j => f (j + 1)) _ (HV.out.below Hb4.out).tail).mono ?_
            rintro e w5 ⟨x, rfl, hx, hb5⟩
            obtain ⟨A5, c5, rfl, hI5⟩ := hx.sl0
            have Hb5 := Lib.hid (Hb4.out.trans (hb5.mono Hb4.out.size))
            have HI5 := Lib.hid hI5
            clear hb5 hx hI5
            go_wp2_with fail
            refine (Share_few HI5.out (show min j' 9 = j' by omega) HTl.out HK.out).mono ?_
            rintro e w6 ⟨rfl, hb6⟩
            have Hb6 := Lib.hid (Hb5.out.trans (hb6.mono Hb5.out.size))
            have hle := HLe.out
            clear hb6 HLe
            generalize shareN j' (fun j => f (j + 1)) k = t at *
            go_wp2_with fail
            refine (awake_any _).mono ?_
            rintro e w7 ⟨rfl, hb7⟩
            have Hb7 := Lib.hid (Hb6.out.trans (hb7.mono Hb6.out.size))
            clear hb7
            go_wp2
            go_ret
            exact ⟨rfl, Hb7.out⟩
          · obtain rfl : j = 1 := by omega
            go_wp2_with fail
            refine (awake_any _).mono ?_
            rintro e w7 ⟨rfl, hb7⟩
            have Hb7 := Lib.hid (Hb4.out.trans (hb7.mono Hb4.out.size))
            clear hb7
            go_wp2
            go_ret
            exact ⟨rfl, Hb7.out⟩
        · by_cases hm1 : 1 < j
          · obtain ⟨j', rfl⟩ : ∃ j', j = j' + 1 := ⟨j - 1, by omega⟩
            have hle := shareN_more (k := k) HB.out
            rw [← HSh.out] at hle
            have HLe := Lib.hid hle
            have HTl := Lib.hid (okParts_tail HOk.out (by omega))
            clear hle
            go_wp2_with fail
            refine (list_any _ j' _ (fun j => f (j + 1)) _ (HV.out.below Hb2.out).tail).mono ?_
            rintro e w5 ⟨x, rfl, hx, hb5⟩
            obtain ⟨A5, c5, rfl, hI5⟩ := hx.sl0
            have Hb5 := Lib.hid (Hb2.out.trans (hb5.mono Hb2.out.size))
            have HI5 := Lib.hid hI5
            clear hb5 hx hI5
            go_wp2_with fail
            refine (Share_few HI5.out (show min j' 9 = j' by omega) HTl.out HK.out).mono ?_
            rintro e w6 ⟨rfl, hb6⟩
            have Hb6 := Lib.hid (Hb5.out.trans (hb6.mono Hb5.out.size))
            have hle := HLe.out
            clear hb6 HLe
            generalize shareN j' (fun j => f (j + 1)) k = t at *
            go_wp2_with fail
            refine (awake_any _).mono ?_
            rintro e w7 ⟨rfl, hb7⟩
            have Hb7 := Lib.hid (Hb6.out.trans (hb7.mono Hb6.out.size))
            clear hb7
            go_wp2
            go_ret
            exact ⟨rfl, Hb7.out⟩
          · obtain rfl : j = 1 := by omega
            go_wp2_with fail
            refine (awake_any _).mono ?_
            rintro e w7 ⟨rfl, hb7⟩
            have Hb7 := Lib.hid (Hb2.out.trans (hb7.mono Hb2.out.size))
            clear hb7
            go_wp2
            go_ret
            exact ⟨rfl, Hb7.out⟩

end Go.Proofs.Ytkgikehagkpmoaa
