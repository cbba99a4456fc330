import Derived.Test.YtgdlkmgdljcgnaaDoorGsh
import Derived.Test.YtgdlkmgdljcgnaaDoorGamesConcave
import Derived.Test.YtgdlkmgdljcgnaaDoorEq
namespace Go.Proofs.YtgdlkmgdljcgnaaDoor
open Go.RowKit

theorem eqB_same (n : Nat) (f : Nat → Int) : eqB n n f f = true := by
  unfold eqB
  rw [allB_t (fun g _ => by simp [eqP])]
  simp
set_option maxHeartbeats 800000 in
set_option maxRecDepth 1000000 in
theorem gamesShapley_walk (A : Option Addr) (n c : Nat) (C : Nat → Int) (B : Option Addr) (m cB : Nat) (O : Nat → Int) (W : World) (h : ArgI W A n c C) (hO : ArgI W B m cB O) (ht : Tab W) : TrueBelow 15 #[.slice A n c, .slice B m cB] W := by
  have hnm : n ≤ maxLen := Nat.le_trans h.1 h.2.1
  have H := Lib.hid h
  have Hn := Lib.hid hnm
  have HT := Lib.hid ht
  have HB := Lib.hid (Below.refl W.heap.size W)
  have HMin := Lib.hid (okC_min n C)
  have hmm : m ≤ maxLen := Nat.le_trans hO.1 hO.2.1
  have HO := Lib.hid hO
  have Hm := Lib.hid hmm
  have hm18 : min m 18 ≤ 18 := by omega
  clear h ht hnm hO hmm
  show Calls _ _ _ _ _
  go_enter Tryd.func15, Tryd.ntmps15
  cases hok : okC n C with
  | false =>
    have HOk := Lib.hid hok
    have HO1 := Lib.hid (show okC (min n 18) C = false by rw [HMin.out]; exact hok)
    have HP : Hid (plN n C = 0) := Lib.hid (by unfold plN; rw [hok]; rfl)
    clear hok
    go_wp2_with fail
    refine (list_any A n c C _ (H.out.below HB.out)).mono ?_
    rintro e wc ⟨v, rfl, hv, hb⟩
    obtain ⟨A1, c1, rfl, hI⟩ := hv.ints
    clear hv
    have HT := Lib.hid (HT.out.keep hb)
    have HB := Lib.hid (HB.out.trans (hb.mono HB.out.size))
    clear hb
    have HI := Lib.hid hI.2.2.2
    have HIa := Lib.hid hI
    clear hI
    go_wp2_with fail
    refine (list_any B m cB O _ (HO.out.below HB.out)).mono ?_
    rintro e wc ⟨v, rfl, hv, hb⟩
    obtain ⟨A2, c2, rfl, hI⟩ := hv.ints
    clear hv
    have HI := Lib.hid (HI.out.keep hb)
    have HT := Lib.hid (HT.out.keep hb)
    have HB := Lib.hid (HB.out.trans (hb.mono HB.out.size))
    clear hb
    have HJ := Lib.hid hI.2.2.2
    have HJa := Lib.hid hI
    clear hI
    go_wp2_with fail
    refine (join_bad A1 A2 (min n 18) c1 (min m 18) c2 C _ HI.out (by omega) HT.out HO1.out).mono ?_
    rintro e w' ⟨rfl, rfl⟩
    go_wp2_with fail
    refine (list_any A n c C _ (H.out.below HB.out)).mono ?_
    rintro e wc ⟨v, rfl, hv, hb⟩
    obtain ⟨A3, c3, rfl, hI⟩ := hv.ints
    clear hv
    have HI := Lib.hid (HI.out.keep hb)
    have HJ := Lib.hid (HJ.out.keep hb)
    have HT := Lib.hid (HT.out.keep hb)
    have HB := Lib.hid (HB.out.trans (hb.mono HB.out.size))
    clear hb
    have HI2 := Lib.hid hI.2.2.2
    have HI2a := Lib.hid hI
    clear hI
    go_wp2_with fail
    refine (shapley_bad A3 (min n 18) c3 C _ HI2.out (by omega) HT.out HO1.out).mono ?_
    rintro e w' ⟨rfl, rfl⟩
    go_wp2_with fail
    refine (refPlayers_any A n c C _ (H.out.below HB.out).2.2.2 Hn.out).mono ?_
    rintro e w' ⟨rfl, rfl⟩
    rw [HP.out]
    go_wp2_with fail
    refine (awake_any _ HT.out).use fun wc hb => ?_
    have HI := Lib.hid (HI.out.keep hb)
    have HJ := Lib.hid (HJ.out.keep hb)
    have HI2 := Lib.hid (HI2.out.keep hb)
    have HT := Lib.hid (HT.out.keep hb)
    have HB := Lib.hid (HB.out.trans (hb.mono HB.out.size))
    clear hb
    go_wp2
    go_ret
    exact ⟨rfl, HB.out⟩
  | true =>
    have HOk := Lib.hid hok
    obtain ⟨k, hk, hk1, hk4, hL, hL2, hL16⟩ := okC_n hok
    have HP : Hid (plN n C = k) := Lib.hid (by unfold plN; rw [hok, if_pos rfl, hk])
    have Hmn := Lib.hid (show min n 18 = n by omega)
    have Hk := Lib.hid hk
    have hne := beq_f (a := (k : Int)) (b := 0) (by omega)
    have HOm := Lib.hid (isOr_min m O k hk4)
    clear hok hk hL
    cases hor : isOr m O k with
    | false =>
      have HOr := Lib.hid hor
      have HOr1 := Lib.hid (show isOr (min m 18) O k = false by rw [HOm.out]; exact hor)
      clear hor
      go_wp2_with fail
      refine (list_any A n c C _ (H.out.below HB.out)).mono ?_
      rintro e wc ⟨v, rfl, hv, hb⟩
      obtain ⟨A1, c1, rfl, hI⟩ := hv.ints
      rw [Hmn.out] at hI ⊢
      clear hv
      have HT := Lib.hid (HT.out.keep hb)
      have HB := Lib.hid (HB.out.trans (hb.mono HB.out.size))
      clear hb
      have HI := Lib.hid hI.2.2.2
      have HIa := Lib.hid hI
      clear hI
      go_wp2_with fail
      refine (list_any B m cB O _ (HO.out.below HB.out)).mono ?_
      rintro e wc ⟨v, rfl, hv, hb⟩
      obtain ⟨A2, c2, rfl, hI⟩ := hv.ints
      clear hv
      have HI := Lib.hid (HI.out.keep hb)
      have HT := Lib.hid (HT.out.keep hb)
      have HB := Lib.hid (HB.out.trans (hb.mono HB.out.size))
      clear hb
      have HJ := Lib.hid hI.2.2.2
      have HJa := Lib.hid hI
      clear hI
      go_wp2_with fail
      refine (join_no A1 A2 n c1 (min m 18) c2 k C O _ HI.out HJa.out (by omega) HT.out HOk.out Hk.out HOr1.out).mono ?_
      rintro e w' ⟨rfl, rfl⟩
      go_wp2_with fail
      refine (list_any A n c C _ (H.out.below HB.out)).mono ?_
      rintro e wc ⟨v, rfl, hv, hb⟩
      obtain ⟨A3, c3, rfl, hI⟩ := hv.ints
      rw [Hmn.out] at hI ⊢
      clear hv
      have HI := Lib.hid (HI.out.keep hb)
      have HJ := Lib.hid (HJ.out.keep hb)
      have HT := Lib.hid (HT.out.keep hb)
      have HB := Lib.hid (HB.out.trans (hb.mono HB.out.size))
      clear hb
      have HI2 := Lib.hid hI.2.2.2
      have HI2a := Lib.hid hI
      clear hI
      go_wp2_with fail
      refine (shapley_ok A3 n c3 k C _ HI2.out HT.out HOk.out Hk.out).mono ?_
      rintro e wc ⟨rfl, hF, hb⟩
      have HF := Lib.hid hF
      clear hF
      have HI := Lib.hid (HI.out.keep hb)
      have HJ := Lib.hid (HJ.out.keep hb)
      have HI2 := Lib.hid (HI2.out.keep hb)
      have HT := Lib.hid (HT.out.keep hb)
      have HB := Lib.hid (HB.out.trans (hb.mono HB.out.size))
      clear hb
      go_wp2_with fail
      refine (refPlayers_any A n c C _ (H.out.below HB.out).2.2.2 Hn.out).mono ?_
      rintro e w' ⟨rfl, rfl⟩
      rw [HP.out]
      go_wp2_with fail
      refine (refShapley_any A n c k C _ (H.out.below HB.out).2.2.2 HOk.out Hk.out).mono ?_
      rintro e wc ⟨v, rfl, hv, hb⟩
      obtain ⟨Av, cv, rfl, hav⟩ := hv.arg
      have HV := Lib.hid hav.2.2.2
      clear hv hav
      have HI := Lib.hid (HI.out.keep hb)
      have HJ := Lib.hid (HJ.out.keep hb)
      have HI2 := Lib.hid (HI2.out.keep hb)
      have HF := Lib.hid (HF.out.keep hb)
      have HT := Lib.hid (HT.out.keep hb)
      have HB := Lib.hid (HB.out.trans (hb.mono HB.out.size))
      clear hb
      go_wp2_with fail
      refine (equalF_any _ _ k k k cv (shF k n C) (shF k n C) _ HF.out.recs HV.out (by omega) (by omega)).use fun wc hb => ?_
      have HI := Lib.hid (HI.out.keep hb)
      have HJ := Lib.hid (HJ.out.keep hb)
      have HI2 := Lib.hid (HI2.out.keep hb)
      have HF := Lib.hid (HF.out.keep hb)
      have HV := Lib.hid (HV.out.keep hb)
      have HT := Lib.hid (HT.out.keep hb)
      have HB := Lib.hid (HB.out.trans (hb.mono HB.out.size))
      clear hb
      rw [eqFB_self]
      go_wp2_with fail
      refine (awake_any _ HT.out).use fun wc hb => ?_
      have HI := Lib.hid (HI.out.keep hb)
      have HJ := Lib.hid (HJ.out.keep hb)
      have HI2 := Lib.hid (HI2.out.keep hb)
      have HF := Lib.hid (HF.out.keep hb)
      have HV := Lib.hid (HV.out.keep hb)
      have HT := Lib.hid (HT.out.keep hb)
      have HB := Lib.hid (HB.out.trans (hb.mono HB.out.size))
      clear hb
      go_wp2_with fail
      refine (refIsOrder_any B m cB k O _ (HO.out.below HB.out).2.2.2 Hm.out ⟨hk1, hk4⟩).mono ?_
      rintro e w' ⟨rfl, rfl⟩
      rw [HOr.out]
      go_wp2
      go_ret
      exact ⟨rfl, HB.out⟩
    | true =>
      have HOr := Lib.hid hor
      have hmk := (isOr_rng hor).1
      have Hmm := Lib.hid (show min m 18 = m by omega)
      have hm10 : m ≤ 10000 := by omega
      clear hor hmk
      go_wp2_with fail
      refine (list_any A n c C _ (H.out.below HB.out)).mono ?_
      rintro e wc ⟨v, rfl, hv, hb⟩
      obtain ⟨A1, c1, rfl, hI⟩ := hv.ints
      rw [Hmn.out] at hI ⊢
      clear hv
      have HT := Lib.hid (HT.out.keep hb)
      have HB := Lib.hid (HB.out.trans (hb.mono HB.out.size))
      clear hb
      have HI := Lib.hid hI.2.2.2
      have HIa := Lib.hid hI
      clear hI
      go_wp2_with fail
      refine (list_any B m cB O _ (HO.out.below HB.out)).mono ?_
      rintro e wc ⟨v, rfl, hv, hb⟩
      obtain ⟨A2, c2, rfl, hI⟩ := hv.ints
      rw [Hmm.out] at hI ⊢
      clear hv
      have HI := Lib.hid (HI.out.keep hb)
      have HT := Lib.hid (HT.out.keep hb)
      have HB := Lib.hid (HB.out.trans (hb.mono HB.out.size))
      clear hb
      have HJ := Lib.hid hI.2.2.2
      have HJa := Lib.hid hI
      clear hI
      go_wp2_with fail
      refine (join_ok A1 A2 n c1 m c2 k C O _ HI.out HJa.out HT.out HOk.out Hk.out HOr.out).mono ?_
      rintro e wc ⟨rfl, hX, hb⟩
      have HX := Lib.hid hX
      clear hX
      have HI := Lib.hid (HI.out.keep hb)
      have HJ := Lib.hid (HJ.out.keep hb)
      have HT := Lib.hid (HT.out.keep hb)
      have HB := Lib.hid (HB.out.trans (hb.mono HB.out.size))
      clear hb
      go_wp2_with fail
      refine (list_any A n c C _ (H.out.below HB.out)).mono ?_
      rintro e wc ⟨v, rfl, hv, hb⟩
      obtain ⟨A3, c3, rfl, hI⟩ := hv.ints
      rw [Hmn.out] at hI ⊢
      clear hv
      have HI := Lib.hid (HI.out.keep hb)
      have HJ := Lib.hid (HJ.out.keep hb)
      have HX := Lib.hid (HX.out.keep hb)
      have HT := Lib.hid (HT.out.keep hb)
      have HB := Lib.hid (HB.out.trans (hb.mono HB.out.size))
      clear hb
      have HI2 := Lib.hid hI.2.2.2
      have HI2a := Lib.hid hI
      clear hI
      go_wp2_with fail
      refine (shapley_ok A3 n c3 k C _ HI2.out HT.out HOk.out Hk.out).mono ?_
      rintro e wc ⟨rfl, hF, hb⟩
      have HF := Lib.hid hF
      clear hF
      have HI := Lib.hid (HI.out.keep hb)
      have HJ := Lib.hid (HJ.out.keep hb)
      have HX := Lib.hid (HX.out.keep hb)
      have HI2 := Lib.hid (HI2.out.keep hb)
      have HT := Lib.hid (HT.out.keep hb)
      have HB := Lib.hid (HB.out.trans (hb.mono HB.out.size))
      clear hb
      go_wp2_with fail
      refine (refPlayers_any A n c C _ (H.out.below HB.out).2.2.2 Hn.out).mono ?_
      rintro e w' ⟨rfl, rfl⟩
      rw [HP.out]
      go_wp2_with fail
      refine (refShapley_any A n c k C _ (H.out.below HB.out).2.2.2 HOk.out Hk.out).mono ?_
      rintro e wc ⟨v, rfl, hv, hb⟩
      obtain ⟨Av, cv, rfl, hav⟩ := hv.arg
      have HV := Lib.hid hav.2.2.2
      clear hv hav
      have HI := Lib.hid (HI.out.keep hb)
      have HJ := Lib.hid (HJ.out.keep hb)
      have HX := Lib.hid (HX.out.keep hb)
      have HI2 := Lib.hid (HI2.out.keep hb)
      have HF := Lib.hid (HF.out.keep hb)
      have HT := Lib.hid (HT.out.keep hb)
      have HB := Lib.hid (HB.out.trans (hb.mono HB.out.size))
      clear hb
      go_wp2_with fail
      refine (equalF_any _ _ k k k cv (shF k n C) (shF k n C) _ HF.out.recs HV.out (by omega) (by omega)).use fun wc hb => ?_
      have HI := Lib.hid (HI.out.keep hb)
      have HJ := Lib.hid (HJ.out.keep hb)
      have HX := Lib.hid (HX.out.keep hb)
      have HI2 := Lib.hid (HI2.out.keep hb)
      have HF := Lib.hid (HF.out.keep hb)
      have HV := Lib.hid (HV.out.keep hb)
      have HT := Lib.hid (HT.out.keep hb)
      have HB := Lib.hid (HB.out.trans (hb.mono HB.out.size))
      clear hb
      rw [eqFB_self]
      go_wp2_with fail
      refine (awake_any _ HT.out).use fun wc hb => ?_
      have HI := Lib.hid (HI.out.keep hb)
      have HJ := Lib.hid (HJ.out.keep hb)
      have HX := Lib.hid (HX.out.keep hb)
      have HI2 := Lib.hid (HI2.out.keep hb)
      have HF := Lib.hid (HF.out.keep hb)
      have HV := Lib.hid (HV.out.keep hb)
      have HT := Lib.hid (HT.out.keep hb)
      have HB := Lib.hid (HB.out.trans (hb.mono HB.out.size))
      clear hb
      go_wp2_with fail
      refine (refIsOrder_any B m cB k O _ (HO.out.below HB.out).2.2.2 Hm.out ⟨hk1, hk4⟩).mono ?_
      rintro e w' ⟨rfl, rfl⟩
      rw [HOr.out]
      go_wp2_with fail
      refine (refJoin_any A B n c m cB k C O _ (H.out.below HB.out).2.2.2 (HO.out.below HB.out).2.2.2 HOk.out Hk.out HOr.out).mono ?_
      rintro e wc ⟨rfl, hY, hb⟩
      have HY := Lib.hid hY
      clear hY
      have HI := Lib.hid (HI.out.keep hb)
      have HJ := Lib.hid (HJ.out.keep hb)
      have HX := Lib.hid (HX.out.keep hb)
      have HI2 := Lib.hid (HI2.out.keep hb)
      have HF := Lib.hid (HF.out.keep hb)
      have HV := Lib.hid (HV.out.keep hb)
      have HT := Lib.hid (HT.out.keep hb)
      have HB := Lib.hid (HB.out.trans (hb.mono HB.out.size))
      clear hb
      go_wp2_with fail
      refine (Ro.lr (equal_any _ _ m m m m (jnX C O m) (jnX C O m) _ HX.out.ints HY.out.ints hm10 hm10)).use fun wc hb => ?_
      have HI := Lib.hid (HI.out.keep hb)
      have HJ := Lib.hid (HJ.out.keep hb)
      have HX := Lib.hid (HX.out.keep hb)
      have HI2 := Lib.hid (HI2.out.keep hb)
      have HF := Lib.hid (HF.out.keep hb)
      have HV := Lib.hid (HV.out.keep hb)
      have HY := Lib.hid (HY.out.keep hb)
      have HT := Lib.hid (HT.out.keep hb)
      have HB := Lib.hid (HB.out.trans (hb.mono HB.out.size))
      clear hb
      rw [eqB_same]
      go_wp2
      go_ret
      exact ⟨rfl, HB.out⟩
end Go.Proofs.YtgdlkmgdljcgnaaDoor
