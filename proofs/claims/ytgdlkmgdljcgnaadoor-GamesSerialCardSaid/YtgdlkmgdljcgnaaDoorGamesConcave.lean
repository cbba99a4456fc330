import Derived.Test.YtgdlkmgdljcgnaaDoorGi
namespace Go.Proofs.YtgdlkmgdljcgnaaDoor
open Go.RowKit

theorem okC_min (n : Nat) (C : Nat → Int) : okC (min n 18) C = okC n C := by
  by_cases h : n ≤ 18
  · rw [Nat.min_eq_left h]
  · rw [Nat.min_eq_right (by omega)]
    unfold okC
    rw [decide_eq_false (show ¬ (18 = 2 ∨ 18 = 4 ∨ 18 = 8 ∨ 18 = 16) by omega), decide_eq_false (show ¬ (n = 2 ∨ n = 4 ∨ n = 8 ∨ n = 16) by omega), Bool.false_and, Bool.false_and]

set_option maxHeartbeats 2000000 in
set_option maxRecDepth 1000000 in
theorem gamesConcave_walk (A : Option Addr) (n c : Nat) (C : Nat → Int) (W : World) (h : ArgI W A n c C) (ht : Tab W) : TrueBelow 14 #[.slice A n c] W := by
  have hnm : n ≤ maxLen := Nat.le_trans h.1 h.2.1
  have H := Lib.hid h
  have Hn := Lib.hid hnm
  have HT := Lib.hid ht
  have HMin := Lib.hid (okC_min n C)
  clear h hnm ht
  show Calls _ _ _ _ _
  go_enter Tryd.func14, Tryd.ntmps14
  go_wp2_with fail
  refine (list_any A n c C W H.out).mono ?_
  rintro e w1 ⟨v, rfl, hv, hb1⟩
  obtain ⟨A1, c1, rfl, hI⟩ := hv.ints
  have HI := Lib.hid hI.2.2.2
  have HB1 := Lib.hid hb1
  have HT1 := Lib.hid (HT.out.keep hb1)
  have HI0 := Lib.hid (H.out.below hb1).2.2.2
  clear hv hI hb1
  cases hok : okC n C with
  | false =>
    have HO1 := Lib.hid (show okC (min n 18) C = false by rw [HMin.out]; exact hok)
    have HP : Hid (plN n C = 0) := Lib.hid (by unfold plN; rw [hok]; rfl)
    clear hok
    go_wp2_with fail
    refine (concave_bad A1 (min n 18) c1 C w1 HI.out (by omega) HT1.out HO1.out).mono ?_
    rintro e w2 ⟨rfl, rfl⟩
    go_wp2_with fail
    refine (refPlayers_any A n c C w1 HI0.out Hn.out).mono ?_
    rintro e w2 ⟨rfl, rfl⟩
    rw [HP.out]
    go_wp2_with fail
    refine (awake_any w1 HT1.out).use fun w5 hb5 => ?_
    have HB5 := Lib.hid (HB1.out.trans (hb5.mono HB1.out.size))
    clear hb5
    go_wp2
    go_ret
    exact ⟨rfl, HB5.out⟩
  | true =>
    have HO := Lib.hid hok
    obtain ⟨k, hk, hk1, hk4, hL, hL2, hL16⟩ := okC_n hok
    have HP : Hid (plN n C = k) := Lib.hid (by unfold plN; rw [hok, if_pos rfl, hk])
    have hmn : min n 18 = n := by omega
    rw [hmn] at HI ⊢
    clear hok hk hL hmn
    go_wp2_with fail
    refine (concave_ok A1 n c1 C w1 HI.out HT1.out HO.out).mono ?_
    rintro e w2 ⟨rfl, hd2⟩
    have HI2 := Lib.hid (HI0.out.dn hd2)
    have HB2 := Lib.hid (HB1.out.trans (hd2.below _))
    have HT2 := Lib.hid (HT1.out.keep (hd2.below _))
    clear hd2
    simp only [cvV]
    go_wp2_with fail
    refine (refPlayers_any A n c C w2 HI2.out Hn.out).mono ?_
    rintro e w3 ⟨rfl, rfl⟩
    rw [HP.out]
    have hne := beq_f (a := (k : Int)) (b := 0) (by omega)
    go_wp2_with fail
    refine (refConcave_any A n c C w2 HI2.out HO.out).mono ?_
    rintro e w3 ⟨rfl, hd3⟩
    have HB3 := Lib.hid (HB2.out.trans (hd3.below _))
    have HT3 := Lib.hid (HT2.out.keep (hd3.below _))
    clear hd3
    simp only [cvV]
    generalize (cvT n C).1 = x at *
    generalize (cvT n C).2.1 = y at *
    generalize (cvT n C).2.2 = z at *
    go_wp2_with fail
    refine (awake_any w3 HT3.out).use fun w5 hb5 => ?_
    have HB5 := Lib.hid (HB3.out.trans (hb5.mono HB3.out.size))
    clear hb5
    go_wp2
    go_ret
    exact ⟨rfl, HB5.out⟩
end Go.Proofs.YtgdlkmgdljcgnaaDoor
