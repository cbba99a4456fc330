/- SwapChances, walked. -/
import Derived.Test.YtocfbafcplhmiaaUte
import Derived.Test.YtocfbafcplhmiaaUzc
import Derived.Test.YtocfbafcplhmiaaUzd
import Derived.Test.YtocfbafcplhmiaaUl
namespace Go.Proofs.Ytocfbafcplhmiaa
open Go.RowKit

set_option maxHeartbeats 8000000 in
set_option maxRecDepth 1000000 in
theorem swapChances_walk (A : Option Addr) (n c : Nat) (L : Nat → Nat) (v : Nat → Nat → Int) (C : Option Addr) (m d : Nat) (f : Nat → Int) (w : World) (h : ArgR w A n c L v) (ho : ArgI w C m d f) :
    Calls Try.prog 15 #[.slice A n c, .slice C m d] w fun e w' => e = .returned (.bool true) ∧ Below w.heap.size w w' := by
  have H := Lib.hid h
  clear h
  have HO := Lib.hid ho
  clear ho
  go_enter Try.func15, Try.ntmps15
  have HB0 := Lib.hid (Below.refl w.heap.size w)
  go_wp2_with fail
  refine (few7_any A n c L v w (H.out.below HB0.out)).mono ?_
  rintro e w1 ⟨x, rfl, hx, hb⟩
  obtain ⟨Aa, ca, rfl, hr, hcc⟩ := hx.own.rowsKs
  clear hx hcc
  have hbb := hb
  have HB1 := Lib.hid (HB0.out.trans (hbb.mono HB0.out.size))
  clear hbb
  clear hb
  have a_1 := Lib.hid (hr)
  clear hr
  go_wp2_with fail
  refine (list7_any C m d f w1 (HO.out.below HB1.out)).mono ?_
  rintro e w2 ⟨x, rfl, hx, hb⟩
  obtain ⟨Ao, co, rfl, hr, hco⟩ := hx.sl1
  clear hx
  have hbb := hb
  have HB2 := Lib.hid (HB1.out.trans (hbb.mono HB1.out.size))
  have a_2 := Lib.hid (a_1.out.keep hbb)
  clear a_1
  clear hbb
  clear hb
  have o_2 := Lib.hid (hr)
  clear hr
  cases hok : okS n L v with
  | false =>
    have HOk := Lib.hid hok
    have HVa := Lib.hid (fun w (h : ArgR w A n c L v) => validR_any A n c L v w h)
    rw [hok] at HVa
    clear hok
    go_wp2_with fail
    refine (ChooseFbad (cA := ca) (cG := co) a_2.out rfl HOk.out).use fun w3 hb => ?_
    have hbb := hb
    have HB3 := Lib.hid (HB2.out.trans (hbb.mono HB2.out.size))
    have a_3 := Lib.hid (a_2.out.keep hbb)
    clear a_2
    have o_3 := Lib.hid (o_2.out.keep hbb)
    clear o_2
    clear hbb
    clear hb
    clear a_3
    clear o_3
    go_wp2_with fail
    refine (few7_any A n c L v w3 (H.out.below HB3.out)).mono ?_
    rintro e w4 ⟨x, rfl, hx, hb⟩
    obtain ⟨Ab, cb, rfl, hr, hcc⟩ := hx.own.rowsKs
    clear hx hcc
    have hbb := hb
    have HB4 := Lib.hid (HB3.out.trans (hbb.mono HB3.out.size))
    clear hbb
    clear hb
    have b_4 := Lib.hid (hr)
    clear hr
    go_wp2_with fail
    refine (ChancesFbad (cA := cb) b_4.out rfl HOk.out).use fun w5 hb => ?_
    have hbb := hb
    have HB5 := Lib.hid (HB4.out.trans (hbb.mono HB4.out.size))
    have b_5 := Lib.hid (b_4.out.keep hbb)
    clear b_4
    clear hbb
    clear hb
    clear b_5
    go_wp2_with fail
    refine (HVa.out w5 (H.out.below HB5.out)).use fun w6 hb => ?_
    have hbb := hb.below w5.heap.size
    have HB6 := Lib.hid (HB5.out.trans (hbb.mono HB5.out.size))
    clear hbb
    clear hb
    go_wp2_with fail
    refine (awake_any _).use fun w7 hb => ?_
    have hbb := hb
    have HB7 := Lib.hid (HB6.out.trans (hbb.mono HB6.out.size))
    clear hbb
    clear hb
    go_wp2
    go_ret
    exact ⟨rfl, HB7.out⟩
  | true =>
    obtain ⟨⟨hn1, hn5⟩, -, hpm0, -⟩ := okS_pm hok
    have HOk := Lib.hid hok
    have HPm := Lib.hid hpm0
    have HWi := Lib.hid (fun w (h : ArgR w A n c L v) => h.wis hok)
    have HVa := Lib.hid (fun w (h : ArgR w A n c L v) => validR_any A n c L v w h)
    rw [hok] at HVa
    have HIs := Lib.hid (fun w (ho : ArgI w C m d f) => isOrderR_any C m d n f w ho (by omega))
    rw [ordR_eq] at HIs
    have HRc := Lib.hid (fun w (hw : Wis w A n (tO v)) => refChances_any A n c (tO v) w hw hn1 hn5 hpm0)
    have HCf := Lib.hid (fun (w : World) (X : Option Addr) (k cX : Nat) (h : RowsK w X k (fun i => min (L i) 7) v) (hk : k = min n 7) => ChancesF (cA := cX) h hk hok)
    clear hok hpm0
    cases hof : ordB n m f with
    | false =>
      have HOf := Lib.hid hof
      rw [hof] at HIs
      clear hof
      go_wp2_with fail
      refine (ChooseFbad2 (cA := ca) (cG := co) a_2.out rfl HOk.out o_2.out rfl hco HOf.out).use fun w3 hb => ?_
      have hbb := hb
      have HB3 := Lib.hid (HB2.out.trans (hbb.mono HB2.out.size))
      have a_3 := Lib.hid (a_2.out.keep hbb)
      clear a_2
      have o_3 := Lib.hid (o_2.out.keep hbb)
      clear o_2
      clear hbb
      clear hb
      clear a_3
      clear o_3
      go_wp2_with fail
      refine (few7_any A n c L v w3 (H.out.below HB3.out)).mono ?_
      rintro e w4 ⟨x, rfl, hx, hb⟩
      obtain ⟨Ab, cb, rfl, hr, hcc⟩ := hx.own.rowsKs
      clear hx hcc
      have hbb := hb
      have HB4 := Lib.hid (HB3.out.trans (hbb.mono HB3.out.size))
      clear hbb
      clear hb
      have b_4 := Lib.hid (hr)
      clear hr
      go_wp2_with fail
      refine (HCf.out _ _ _ cb b_4.out rfl).mono ?_
      rintro e w5 ⟨Bt, rfl, hBt, hMt, hb⟩
      have hbb := hb
      have HB5 := Lib.hid (HB4.out.trans (hbb.mono HB4.out.size))
      have b_5 := Lib.hid (b_4.out.keep hbb)
      clear b_4
      clear hbb
      clear hb
      have T_5 := Lib.hid (hMt)
      clear hMt
      clear b_5
      go_wp2_with fail
      refine (HVa.out w5 (H.out.below HB5.out)).use fun w6 hb => ?_
      have hbb := hb.below w5.heap.size
      have HB6 := Lib.hid (HB5.out.trans (hbb.mono HB5.out.size))
      have T_6 := Lib.hid (T_5.out.keep hbb)
      clear T_5
      clear hbb
      clear hb
      go_wp2_with fail
      refine (HRc.out w6 (HWi.out _ (H.out.below HB6.out))).mono ?_
      rintro e w7 ⟨gr, capr, Rr, rfl, hMr, hb⟩
      have hbb := hb
      have HB7 := Lib.hid (HB6.out.trans (hbb.mono HB6.out.size))
      have T_7 := Lib.hid (T_6.out.keep hbb)
      clear T_6
      clear hbb
      clear hb
      have U_7 := Lib.hid (hMr)
      clear hMr
      go_wp2_with fail
      refine (sameM T_7.out U_7.out hn5).use fun w8 hb => ?_
      have hbb := hb.below w7.heap.size
      have HB8 := Lib.hid (HB7.out.trans (hbb.mono HB7.out.size))
      have T_8 := Lib.hid (T_7.out.keep hbb)
      clear T_7
      have U_8 := Lib.hid (U_7.out.keep hbb)
      clear U_7
      clear hbb
      clear hb
      clear T_8
      clear U_8
      go_wp2_with fail
      refine (awake_any _).use fun w9 hb => ?_
      have hbb := hb
      have HB9 := Lib.hid (HB8.out.trans (hbb.mono HB8.out.size))
      clear hbb
      clear hb
      go_wp2_with fail
      refine (HIs.out w9 (HO.out.below HB9.out)).use fun w10 hb => ?_
      have hbb := hb.below w9.heap.size
      have HB10 := Lib.hid (HB9.out.trans (hbb.mono HB9.out.size))
      clear hbb
      clear hb
      go_wp2
      go_ret
      exact ⟨rfl, HB10.out⟩
    | true =>
      rw [hof] at HIs
      obtain ⟨hmn, hpm, hfe⟩ := ordB_pm hof
      have HPo := Lib.hid hpm
      have HFe := Lib.hid hfe
      have HM7 : Hid (min m 7 = n) := Lib.hid (by omega)
      have HCv : Hid (∀ (w : World) (A : Option Addr), Ints w A (min m 7) f → Ints w A (min m 7) (fun p => (fO f p : Int))) := Lib.hid (fun w A h => h.congr (fun p hp => HFe.out p (by omega)))
      have HCo : Hid (∀ w, ArgI w C m d f → Ints w C n (fun p => (fO f p : Int))) := Lib.hid (fun w h => by
        have h2 := h.2.2.2
        rw [hmn] at h2
        exact h2.congr (fun p hp => HFe.out p hp))
      have HRO := Lib.hid (fun w (hw : Wis w A n (tO v)) (ho : Ints w C n (fun p => (fO f p : Int))) => refChoose_any A n c (tO v) C d (fO f) w hw ho hn5 HPm.out HPo.out)
      have HOe := Lib.hid (fun (w : World) (X : Option Addr) (k cX : Nat) (Y : Option Addr) (q cY : Nat) (h : RowsK w X k (fun i => min (L i) 7) v) (hk : k = min n 7) (hG : Ints w Y q (fun p => (fO f p : Int))) (hq : q = n) (hc : q ≤ cY) => ChooseF (cA := cX) (g := fO f) h hk HOk.out hG hq hc HPo.out)
      have hmd : m = n := hmn
      have HMd := Lib.hid hmd
      generalize chF (tO v) n (fO f) = fx at *
      clear hof hpm hfe hmn hmd
      go_wp2_with fail
      refine (HOe.out _ _ _ ca _ _ co a_2.out rfl (HCv.out _ _ o_2.out) HM7.out hco).mono ?_
      rintro e w3 ⟨Bx, rfl, hBx, hRx, hb⟩
      have hbb := hb
      have HB3 := Lib.hid (HB2.out.trans (hbb.mono HB2.out.size))
      have a_3 := Lib.hid (a_2.out.keep hbb)
      clear a_2
      have o_3 := Lib.hid (o_2.out.keep hbb)
      clear o_2
      clear hbb
      clear hb
      clear a_3
      clear o_3
      have X_3 := Lib.hid (RowI.ints hRx)
      clear hRx
      go_wp2_with fail
      refine (few7_any A n c L v w3 (H.out.below HB3.out)).mono ?_
      rintro e w4 ⟨x, rfl, hx, hb⟩
      obtain ⟨Ab, cb, rfl, hr, hcc⟩ := hx.own.rowsKs
      clear hx hcc
      have hbb := hb
      have HB4 := Lib.hid (HB3.out.trans (hbb.mono HB3.out.size))
      have X_4 := Lib.hid (X_3.out.keep hbb)
      clear X_3
      clear hbb
      clear hb
      have b_4 := Lib.hid (hr)
      clear hr
      go_wp2_with fail
      refine (HCf.out _ _ _ cb b_4.out rfl).mono ?_
      rintro e w5 ⟨Bt, rfl, hBt, hMt, hb⟩
      have hbb := hb
      have HB5 := Lib.hid (HB4.out.trans (hbb.mono HB4.out.size))
      have X_5 := Lib.hid (X_4.out.keep hbb)
      clear X_4
      have b_5 := Lib.hid (b_4.out.keep hbb)
      clear b_4
      clear hbb
      clear hb
      have T_5 := Lib.hid (hMt)
      clear hMt
      clear b_5
      go_wp2_with fail
      refine (HVa.out w5 (H.out.below HB5.out)).use fun w6 hb => ?_
      have hbb := hb.below w5.heap.size
      have HB6 := Lib.hid (HB5.out.trans (hbb.mono HB5.out.size))
      have X_6 := Lib.hid (X_5.out.keep hbb)
      clear X_5
      have T_6 := Lib.hid (T_5.out.keep hbb)
      clear T_5
      clear hbb
      clear hb
      go_wp2_with fail
      refine (HRc.out w6 (HWi.out _ (H.out.below HB6.out))).mono ?_
      rintro e w7 ⟨gr, capr, Rr, rfl, hMr, hb⟩
      have hbb := hb
      have HB7 := Lib.hid (HB6.out.trans (hbb.mono HB6.out.size))
      have X_7 := Lib.hid (X_6.out.keep hbb)
      clear X_6
      have T_7 := Lib.hid (T_6.out.keep hbb)
      clear T_6
      clear hbb
      clear hb
      have U_7 := Lib.hid (hMr)
      clear hMr
      go_wp2_with fail
      refine (sameM T_7.out U_7.out hn5).use fun w8 hb => ?_
      have hbb := hb.below w7.heap.size
      have HB8 := Lib.hid (HB7.out.trans (hbb.mono HB7.out.size))
      have X_8 := Lib.hid (X_7.out.keep hbb)
      clear X_7
      have T_8 := Lib.hid (T_7.out.keep hbb)
      clear T_7
      have U_8 := Lib.hid (U_7.out.keep hbb)
      clear U_7
      clear hbb
      clear hb
      clear T_8
      clear U_8
      go_wp2_with fail
      refine (awake_any _).use fun w9 hb => ?_
      have hbb := hb
      have HB9 := Lib.hid (HB8.out.trans (hbb.mono HB8.out.size))
      have X_9 := Lib.hid (X_8.out.keep hbb)
      clear X_8
      clear hbb
      clear hb
      go_wp2_with fail
      refine (HIs.out w9 (HO.out.below HB9.out)).use fun w10 hb => ?_
      have hbb := hb.below w9.heap.size
      have HB10 := Lib.hid (HB9.out.trans (hbb.mono HB9.out.size))
      have X_10 := Lib.hid (X_9.out.keep hbb)
      clear X_9
      clear hbb
      clear hb
      rw [HMd.out]
      go_wp2_with fail
      refine (HRO.out w10 (HWi.out _ (H.out.below HB10.out)) (HCo.out _ (HO.out.below HB10.out))).mono ?_
      rintro e w11 ⟨Bz, rfl, hBz, hRz, hb⟩
      have hbb := hb
      have HB11 := Lib.hid (HB10.out.trans (hbb.mono HB10.out.size))
      have X_11 := Lib.hid (X_10.out.keep hbb)
      clear X_10
      clear hbb
      clear hb
      have Z_11 := Lib.hid (RowI.ints hRz)
      clear hRz
      have HE1 := Lib.hid (equal_any (some ⟨Bx, 0, none⟩) (some ⟨Bz, 0, none⟩) n n n n (fun p => (fx p : Int)) (fun p => (fx p : Int)) w11 X_11.out Z_11.out (by omega) (by omega))
      rw [eqB_same] at HE1
      go_wp2_with fail
      refine (HE1.out).use fun w12 hb => ?_
      have hbb := hb.below w11.heap.size
      have HB12 := Lib.hid (HB11.out.trans (hbb.mono HB11.out.size))
      have X_12 := Lib.hid (X_11.out.keep hbb)
      clear X_11
      have Z_12 := Lib.hid (Z_11.out.keep hbb)
      clear Z_11
      clear hbb
      clear hb
      clear HE1
      go_wp2
      go_ret
      exact ⟨rfl, HB12.out⟩
end Go.Proofs.Ytocfbafcplhmiaa
