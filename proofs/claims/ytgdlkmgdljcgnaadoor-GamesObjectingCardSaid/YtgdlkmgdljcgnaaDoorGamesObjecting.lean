import Derived.Test.YtgdlkmgdljcgnaaDoorGamesObjects
namespace Go.Proofs.YtgdlkmgdljcgnaaDoor
open Go.RowKit

theorem coB_bad {L n : Nat} {C : Nat → Int} {F : Nat → Nat → Int} (h : shB L n C F = false) : coB L n C F = false := by unfold coB; rw [h]; rfl
theorem shB_m {L m : Nat} {C : Nat → Int} {F : Nat → Nat → Int} (hok : okC L C = true) (h : shB L (min m 6) C F = true) : min m 6 = m := by
  obtain ⟨k, hk, hk1, hk4, -⟩ := okC_n hok
  have := (shB_py h).1
  omega
set_option maxHeartbeats 4000000 in
set_option maxRecDepth 1000000 in
theorem gamesObjecting_walk (A : Option Addr) (n c : Nat) (C : Nat → Int) (B : Option Addr) (m c2 : Nat) (F : Nat → Nat → Int) (W : World) (h : ArgI W A n c C) (hf : ArgK 2 W B m c2 F) (ht : Tab W) : TrueBelow 6 #[.slice A n c, .slice B m c2] W := by
  have hnm : n ≤ maxLen := Nat.le_trans h.1 h.2.1
  have H := Lib.hid h
  have HF := Lib.hid hf
  have Hn := Lib.hid hnm
  have HT := Lib.hid ht
  have HMin := Lib.hid (okC_min n C)
  have hm6 : min m 6 ≤ 6 := by omega
  clear h hf hnm ht
  show Calls _ _ _ _ _
  go_enter Tryd.func6, Tryd.ntmps6
  go_wp2_with fail
  refine (list_any A n c C W H.out).mono ?_
  rintro e w1 ⟨v, rfl, hv, hb1⟩
  obtain ⟨A1, c1, rfl, hI⟩ := hv.ints
  have HI := Lib.hid hI.2.2.2
  have HB1 := Lib.hid hb1
  clear hv hI hb1
  go_wp2_with fail
  refine (fracs_any B m c2 F w1 (HF.out.below HB1.out)).mono ?_
  rintro e w2 ⟨x, rfl, hx, hb2⟩
  obtain ⟨B1, d1, rfl, hK⟩ := hx.arg
  have HK := Lib.hid hK.2.2.2
  have HB2 := Lib.hid (HB1.out.trans (hb2.mono HB1.out.size))
  have HI2 := Lib.hid (HI.out.keep hb2)
  have HT2 := Lib.hid (HT.out.keep HB2.out)
  clear hx hK hb2
  cases hok : okC n C with
  | false =>
    have HO1 := Lib.hid (show okC (min n 18) C = false by rw [HMin.out]; exact hok)
    have HP : Hid (plN n C = 0) := Lib.hid (by unfold plN; rw [hok]; rfl)
    clear hok
    go_wp2_with fail
    refine (objects_bad A1 B1 (min n 18) c1 (min m 6) d1 C w2 HI2.out (by omega) HO1.out HT2.out).use fun w3 hb3 => ?_
    have HB3 := Lib.hid (HB2.out.trans (hb3.mono HB2.out.size))
    clear hb3
    go_wp2_with fail
    refine (list_any A n c C w3 (H.out.below HB3.out)).mono ?_
    rintro e w4 ⟨v, rfl, hv, hb4⟩
    obtain ⟨A4, c4, rfl, hI⟩ := hv.ints
    have HI4 := Lib.hid hI.2.2.2
    have HB4 := Lib.hid (HB3.out.trans (hb4.mono HB3.out.size))
    clear hv hI hb4
    go_wp2_with fail
    refine (fracs_any B m c2 F w4 (HF.out.below HB4.out)).mono ?_
    rintro e w5 ⟨x, rfl, hx, hb5⟩
    obtain ⟨B5, d5, rfl, hK⟩ := hx.arg
    have HB5 := Lib.hid (HB4.out.trans (hb5.mono HB4.out.size))
    have HI5 := Lib.hid (HI4.out.keep hb5)
    have HT5 := Lib.hid (HT.out.keep HB5.out)
    clear hx hK hb5
    go_wp2_with fail
    refine (checkCore_bad A4 B5 (min n 18) c4 (min m 6) d5 C w5 HI5.out (by omega) HO1.out HT5.out).use fun w6 hb6 => ?_
    have HB6 := Lib.hid (HB5.out.trans (hb6.mono HB5.out.size))
    have HT6 := Lib.hid (HT5.out.keep hb6)
    clear hb6
    go_wp2_with fail
    refine (refPlayers_any A n c C w6 (H.out.below HB6.out).2.2.2 Hn.out).mono ?_
    rintro e w7 ⟨rfl, rfl⟩
    rw [HP.out]
    go_wp2_with fail
    refine (awake_any _ HT6.out).use fun w8 hb8 => ?_
    have HB8 := Lib.hid (HB6.out.trans (hb8.mono HB6.out.size))
    clear hb8
    go_wp2
    go_ret
    exact ⟨rfl, HB8.out⟩
  | true =>
    have HO := Lib.hid hok
    obtain ⟨k, hk, hk1, hk4, hL, hL2, hL16⟩ := okC_n hok
    have HP : Hid (plN n C = k) := Lib.hid (by unfold plN; rw [hok, if_pos rfl, hk])
    have hmn : min n 18 = n := by omega
    rw [hmn] at HI2 ⊢
    have Hmn := Lib.hid hmn
    have Hk := Lib.hid hk
    have hne := beq_f (a := (k : Int)) (b := 0) (by omega)
    have HOb := Lib.hid (objects_ok A1 B1 n c1 (min m 6) d1 C F w2 HI2.out HK.out (by omega) HO.out HT2.out)
    clear hok hk hL hmn
    cases hs : shB n (min m 6) C F with
    | false =>
      have HV := Lib.hid (obV_bad hs)
      have HCo := Lib.hid (coB_bad hs)
      rw [HV.out] at HOb
      clear hs
      go_wp2_with fail
      refine HOb.out.use fun w3 hb3 => ?_
      have HB3 := Lib.hid (HB2.out.trans (hb3.mono HB2.out.size))
      clear hb3
      go_wp2_with fail
      refine (list_any A n c C w3 (H.out.below HB3.out)).mono ?_
      rintro e w4 ⟨v, rfl, hv, hb4⟩
      obtain ⟨A4, c4, rfl, hI⟩ := hv.ints
      rw [Hmn.out] at hI ⊢
      have HI4 := Lib.hid hI.2.2.2
      have HB4 := Lib.hid (HB3.out.trans (hb4.mono HB3.out.size))
      clear hv hI hb4
      go_wp2_with fail
      refine (fracs_any B m c2 F w4 (HF.out.below HB4.out)).mono ?_
      rintro e w5 ⟨x, rfl, hx, hb5⟩
      obtain ⟨B5, d5, rfl, hK⟩ := hx.arg
      have HK5 := Lib.hid hK.2.2.2
      have HB5 := Lib.hid (HB4.out.trans (hb5.mono HB4.out.size))
      have HI5 := Lib.hid (HI4.out.keep hb5)
      have HT5 := Lib.hid (HT.out.keep HB5.out)
      clear hx hK hb5
      go_wp2_with fail
      refine (checkCore_ok A4 B5 n c4 (min m 6) d5 C F w5 HI5.out HK5.out (by omega) HO.out HT5.out).use fun w6 hb6 => ?_
      have HB6 := Lib.hid (HB5.out.trans (hb6.mono HB5.out.size))
      have HT6 := Lib.hid (HT5.out.keep hb6)
      rw [HCo.out]
      clear hb6
      go_wp2_with fail
      refine (refPlayers_any A n c C w6 (H.out.below HB6.out).2.2.2 Hn.out).mono ?_
      rintro e w7 ⟨rfl, rfl⟩
      rw [HP.out]
      go_wp2_with fail
      refine (awake_any _ HT6.out).use fun w8 hb8 => ?_
      have HB8 := Lib.hid (HB6.out.trans (hb8.mono HB6.out.size))
      clear hb8
      go_wp2
      go_ret
      exact ⟨rfl, HB8.out⟩
    | true =>
      have hmm := shB_m HO.out hs
      have Hmm := Lib.hid hmm
      rw [hmm] at hs HK HOb ⊢
      have hpy := shB_py hs
      have hm4 : m ≤ 4 := by have := hpy.1; have := Hk.out; omega
      have HPy := Lib.hid hpy.2.1
      have HPay : Hid ((pyAll F m && decide (m = k)) = true) := Lib.hid (by rw [hpy.2.1, decide_eq_true (hpy.1.trans Hk.out)]; rfl)
      have HRp := Lib.hid (fun (w : World) (hb : Below W.heap.size W w) => refPayments_any B m c2 k F w (HF.out.below hb))
      rw [HPay.out] at HRp
      have HCoE : Hid (coB n m C F = decide ((obF (exS m C F) n).1 = 0)) := Lib.hid (by unfold coB; rw [hs, Bool.true_and])
      have HObE : Hid (obV n m C F = if (obF (exS m C F) n).1 = 0 then .tuple #[.int .i64 0, .int .i64 4] else .tuple #[.int .i64 (obF (exS m C F) n).1, .int .i64 0]) := Lib.hid (by unfold obV; rw [hs, if_pos rfl])
      have HInv := Lib.hid (obF_inv (exS m C F) n)
      have HC := Lib.hid (okC_iff.1 HO.out).2.2
      clear hs hpy hmm
      go_wp2_with fail
      refine HOb.out.use fun w3 hb3 => ?_
      have HB3 := Lib.hid (HB2.out.trans (hb3.mono HB2.out.size))
      clear hb3
      by_cases hz : (obF (exS m C F) n).1 = 0
      · rw [HObE.out, if_pos hz]
        have HCo : Hid (coB n m C F = true) := Lib.hid (by rw [HCoE.out, decide_eq_true hz])
        clear hz
        go_wp2_with fail
        refine (list_any A n c C w3 (H.out.below HB3.out)).mono ?_
        rintro e w4 ⟨v, rfl, hv, hb4⟩
        obtain ⟨A4, c4, rfl, hI⟩ := hv.ints
        rw [Hmn.out] at hI ⊢
        have HI4 := Lib.hid hI.2.2.2
        have HB4 := Lib.hid (HB3.out.trans (hb4.mono HB3.out.size))
        clear hv hI hb4
        go_wp2_with fail
        refine (fracs_any B m c2 F w4 (HF.out.below HB4.out)).mono ?_
        rintro e w5 ⟨x, rfl, hx, hb5⟩
        obtain ⟨B5, d5, rfl, hK⟩ := hx.arg
        rw [Hmm.out] at hK ⊢
        have HK5 := Lib.hid hK.2.2.2
        have HB5 := Lib.hid (HB4.out.trans (hb5.mono HB4.out.size))
        have HI5 := Lib.hid (HI4.out.keep hb5)
        have HT5 := Lib.hid (HT.out.keep HB5.out)
        clear hx hK hb5
        go_wp2_with fail
        refine (checkCore_ok A4 B5 n c4 m d5 C F w5 HI5.out HK5.out (by omega) HO.out HT5.out).use fun w6 hb6 => ?_
        have HB6 := Lib.hid (HB5.out.trans (hb6.mono HB5.out.size))
        have HT6 := Lib.hid (HT5.out.keep hb6)
        rw [HCo.out]
        clear hb6
        go_wp2_with fail
        refine (refPlayers_any A n c C w6 (H.out.below HB6.out).2.2.2 Hn.out).mono ?_
        rintro e w7 ⟨rfl, rfl⟩
        rw [HP.out]
        go_wp2_with fail
        refine (HRp.out _ HB6.out).use fun w7 hb7 => ?_
        have HB7 := Lib.hid (HB6.out.trans (hb7.mono HB6.out.size))
        have HT7 := Lib.hid (HT6.out.keep hb7)
        clear hb7
        go_wp2_with fail
        refine (awake_any _ HT7.out).use fun w8 hb8 => ?_
        have HB8 := Lib.hid (HB7.out.trans (hb8.mono HB7.out.size))
        clear hb8
        go_wp2
        go_ret
        exact ⟨rfl, HB8.out⟩
      · rw [HObE.out, if_neg hz]
        have HCo : Hid (coB n m C F = false) := Lib.hid (by rw [HCoE.out, decide_eq_false hz])
        obtain ⟨i1, i2, i3, i4, i5, i6⟩ := HInv.out
        obtain ⟨t, ht, hte, htx⟩ := i5 (by
          rcases Int.lt_or_eq_of_le i1 with h | h
          · exact h
          · exact absurd (i4 h.symm) hz)
        have hex : 0 < exS m C F t := by
          rw [htx]
          rcases Int.lt_or_eq_of_le i1 with h | h
          · exact h
          · exact absurd (i4 h.symm) hz
        rw [hte] at hz ⊢
        have ht0 : 0 < t := by omega
        have HLs := Lib.hid (ls_ex HPy.out C t)
        rw [decide_eq_true hex] at HLs
        have hfit := ls_fits HPy.out hm4 t (HC.out t ht)
        have HLe := Lib.hid (fun w => lessF_any (C t) 1 (pA F t m) (pB F t m) hfit.1 hfit.2 w)
        rw [HLs.out] at HLe
        have HPs := Lib.hid (fun (w : World) (hb : Below W.heap.size W w) => pays_lr B m c2 t F w (HF.out.below hb).2.2.2 hm4 HPy.out)
        obtain ⟨g, o, rfl, hc⟩ := H.out.2.2.2.at ht
        have Hc := Lib.hid hc
        generalize C t = xx at *
        generalize pA F t m = aa at *
        generalize pB F t m = bb at *
        clear i1 i2 i3 i4 i6 hte htx hex hfit hz hc
        have hlt : decide (t < n) = true := decide_eq_true ht
        have hlt2 : decide ((t : Int) < (n : Int)) = true := decide_eq_true (by omega)
        go_wp2_with fail
        refine (list_any _ n c C w3 (H.out.below HB3.out)).mono ?_
        rintro e w4 ⟨v, rfl, hv, hb4⟩
        obtain ⟨A4, c4, rfl, hI⟩ := hv.ints
        rw [Hmn.out] at hI ⊢
        have HI4 := Lib.hid hI.2.2.2
        have HB4 := Lib.hid (HB3.out.trans (hb4.mono HB3.out.size))
        clear hv hI hb4
        go_wp2_with fail
        refine (fracs_any B m c2 F w4 (HF.out.below HB4.out)).mono ?_
        rintro e w5 ⟨x, rfl, hx, hb5⟩
        obtain ⟨B5, d5, rfl, hK⟩ := hx.arg
        rw [Hmm.out] at hK ⊢
        have HK5 := Lib.hid hK.2.2.2
        have HB5 := Lib.hid (HB4.out.trans (hb5.mono HB4.out.size))
        have HI5 := Lib.hid (HI4.out.keep hb5)
        have HT5 := Lib.hid (HT.out.keep HB5.out)
        clear hx hK hb5
        go_wp2_with fail
        refine (checkCore_ok A4 B5 n c4 m d5 C F w5 HI5.out HK5.out (by omega) HO.out HT5.out).use fun w6 hb6 => ?_
        have HB6 := Lib.hid (HB5.out.trans (hb6.mono HB5.out.size))
        have HT6 := Lib.hid (HT5.out.keep hb6)
        rw [HCo.out]
        clear hb6
        go_wp2_with fail
        refine (refPlayers_any _ n c C w6 (H.out.below HB6.out).2.2.2 Hn.out).mono ?_
        rintro e w7 ⟨rfl, rfl⟩
        rw [HP.out]
        go_wp2_with fail
        refine (HRp.out _ HB6.out).use fun w7 hb7 => ?_
        have HB7 := Lib.hid (HB6.out.trans (hb7.mono HB6.out.size))
        have HT7 := Lib.hid (HT6.out.keep hb7)
        have hc7 : w7.cell? ⟨g, o + t, none⟩ = some (.int .i64 xx) := (HB7.out.cell (World.block_lt_of_cell? _ _ Hc.out)).trans Hc.out
        clear hb7
        go_wp2_with fail
        refine (wholeL_any xx _).use fun w8 hb8 => ?_
        have HB8 := Lib.hid (HB7.out.trans (hb8.mono HB7.out.size))
        have HT8 := Lib.hid (HT7.out.keep hb8)
        clear hb8 hc7
        go_wp2_with fail
        refine (HPs.out _ HB8.out).use fun w9 hb9 => ?_
        have HB9 := Lib.hid (HB8.out.trans (hb9.mono HB8.out.size))
        have HT9 := Lib.hid (HT8.out.keep hb9)
        clear hb9
        go_wp2_with fail
        refine (HLe.out _).use fun wa hba => ?_
        have HBa := Lib.hid (HB9.out.trans (hba.mono HB9.out.size))
        have HTa := Lib.hid (HT9.out.keep hba)
        clear hba
        go_wp2_with fail
        refine (awake_any _ HTa.out).use fun wb hbb => ?_
        have HBb := Lib.hid (HBa.out.trans (hbb.mono HBa.out.size))
        clear hbb
        go_wp2
        go_ret
        exact ⟨rfl, HBb.out⟩
end Go.Proofs.YtgdlkmgdljcgnaaDoor
