/- SwapTrades, walked. -/
import Derived.Test.YtocfbafcplhmiaaUl
namespace Go.Proofs.Ytocfbafcplhmiaa
open Go.RowKit

set_option maxHeartbeats 4000000 in
set_option maxRecDepth 1000000 in
theorem swapTrades_walk (A : Option Addr) (n c : Nat) (L : Nat → Nat) (v : Nat → Nat → Int) (w : World) (h : ArgR w A n c L v) :
    Calls Try.prog 18 #[.slice A n c] w fun e w' => e = .returned (.bool true) ∧ Below w.heap.size w w' := by
  have H := Lib.hid h
  clear h
  go_enter Try.func18, Try.ntmps18
  go_wp2_with fail
  refine (few7_any A n c L v w H.out).mono ?_
  rintro e w1 ⟨x, rfl, hx, hb1⟩
  obtain ⟨A1, c1, rfl, hr1, hc1⟩ := hx.own.rowsKs
  have HB1 := Lib.hid hb1
  have HR1 := Lib.hid hr1
  clear hx hb1 hr1
  cases hok : okS n L v with
  | false =>
    have HTb := Lib.hid (TradeFbad (cA := c1) HR1.out rfl hok)
    have HRb := Lib.hid (fun (w : World) (A1 : Option Addr) (c1 : Nat) (h : RowsK w A1 (min n 7) (fun i => min (L i) 7) v) => RoundsFbad (cA := c1) h rfl hok)
    have HV := Lib.hid (fun w (h : ArgR w A n c L v) => validR_any A n c L v w h)
    rw [hok] at HV
    clear hok
    go_wp2_with fail
    refine HTb.out.use fun w2 hb2 => ?_
    have HB2 := Lib.hid (HB1.out.trans (hb2.mono HB1.out.size))
    clear hb2
    go_wp2_with fail
    refine (few7_any A n c L v w2 (H.out.below HB2.out)).mono ?_
    rintro e w3 ⟨x, rfl, hx, hb3⟩
    obtain ⟨A3, c3, rfl, hr3, hc3⟩ := hx.own.rowsKs
    have HB3 := Lib.hid (HB2.out.trans (hb3.mono HB2.out.size))
    have HRc := Lib.hid (HRb.out w3 A3 c3 hr3)
    clear hx hb3 hr3
    go_wp2_with fail
    refine HRc.out.use fun w4 hb4 => ?_
    have HB4 := Lib.hid (HB3.out.trans (hb4.mono HB3.out.size))
    clear hb4
    go_wp2_with fail
    refine (HV.out w4 (H.out.below HB4.out)).use fun w5 hd5 => ?_
    have HB5 := Lib.hid (HB4.out.trans (hd5.below _))
    clear hd5
    go_wp2_with fail
    refine (awake_any _).use fun w6 hb6 => ?_
    have HB6 := Lib.hid (HB5.out.trans (hb6.mono HB5.out.size))
    clear hb6
    go_wp2
    go_ret
    exact ⟨rfl, HB6.out⟩
  | true =>
    have HTk := Lib.hid (TradeF (cA := c1) HR1.out rfl hok)
    have HRk := Lib.hid (fun (w : World) (A1 : Option Addr) (c1 : Nat) (h : RowsK w A1 (min n 7) (fun i => min (L i) 7) v) => RoundsF (cA := c1) h rfl hok)
    obtain ⟨⟨hn1, hn5⟩, -, hpm, -⟩ := okS_pm hok
    have HPm := Lib.hid hpm
    have HWi := Lib.hid (fun w (h : ArgR w A n c L v) => h.wis hok)
    have HV := Lib.hid (fun w (h : ArgR w A n c L v) => validR_any A n c L v w h)
    rw [hok] at HV
    clear hok hpm
    go_wp2_with fail
    refine HTk.out.mono ?_
    rintro e w2 ⟨B1, rfl, hB1, hT, hb2⟩
    have HB2 := Lib.hid (HB1.out.trans (hb2.mono HB1.out.size))
    have HT := Lib.hid hT
    clear hb2 hT HTk HR1
    go_wp2_with fail
    refine (few7_any A n c L v w2 (H.out.below HB2.out)).mono ?_
    rintro e w3 ⟨x, rfl, hx, hb3⟩
    obtain ⟨A3, c3, rfl, hr3, hc3⟩ := hx.own.rowsKs
    have HB3 := Lib.hid (HB2.out.trans (hb3.mono HB2.out.size))
    have HT3 := Lib.hid (HT.out.keep hb3)
    have HRc := Lib.hid (HRk.out w3 A3 c3 hr3)
    clear hx hb3 hr3 HT HRk
    go_wp2_with fail
    refine HRc.out.mono ?_
    rintro e w4 ⟨B2, rfl, hB2, hR, hb4⟩
    have HB4 := Lib.hid (HB3.out.trans (hb4.mono HB3.out.size))
    have HT4 := Lib.hid (HT3.out.keep hb4)
    have HR4 := Lib.hid hR
    clear hb4 hR HT3 HRc
    go_wp2_with fail
    refine (HV.out w4 (H.out.below HB4.out)).use fun w5 hd5 => ?_
    have HB5 := Lib.hid (HB4.out.trans (hd5.below _))
    have HT5 := Lib.hid (HT4.out.dn hd5)
    have HR5 := Lib.hid (HR4.out.dn hd5)
    clear hd5 HT4 HR4
    go_wp2_with fail
    refine (refTrade_any A n c (tO v) w5 (HWi.out w5 (H.out.below HB5.out)) hn5 HPm.out).mono ?_
    rintro e w6 ⟨B3, rfl, hB3, hT6, hb6⟩
    have HB6 := Lib.hid (HB5.out.trans (hb6.mono HB5.out.size))
    have HT6 := Lib.hid (HT5.out.keep hb6)
    have HR6 := Lib.hid (HR5.out.keep hb6)
    have HE6 := Lib.hid (equal_any (some ⟨B1, 0, none⟩) (some ⟨B3, 0, none⟩) n n n n _ _ w6 HT6.out.ints hT6.ints (by omega) (by omega))
    have e6 : eqB n n (fun p => (trV v n p : Int)) (fun p => (trF (tO v) n (owF (fun k => k) n) p : Int)) = true := eqB_self n _
    rw [e6] at HE6
    clear hb6 hT6 e6 HT5 HR5
    go_wp2_with fail
    refine HE6.out.use fun w7 hd7 => ?_
    have HB7 := Lib.hid (HB6.out.trans (hd7.below _))
    have HR7 := Lib.hid (HR6.out.dn hd7)
    clear hd7 HT6 HR6 HE6
    go_wp2_with fail
    refine (refRounds_any A n c (tO v) w7 (HWi.out w7 (H.out.below HB7.out)) hn5 HPm.out).mono ?_
    rintro e w8 ⟨B4, rfl, hB4, hT8, hb8⟩
    have HB8 := Lib.hid (HB7.out.trans (hb8.mono HB7.out.size))
    have HR8 := Lib.hid (HR7.out.keep hb8)
    have HE8 := Lib.hid (equal_any (some ⟨B2, 0, none⟩) (some ⟨B4, 0, none⟩) n n n n _ _ w8 HR8.out.ints hT8.ints (by omega) (by omega))
    have e8 : eqB n n (fun p => (rnV v n p : Int)) (fun p => (rnF (tO v) n (owF (fun k => k) n) p : Int)) = true := eqB_self n _
    rw [e8] at HE8
    clear hb8 hT8 e8 HR7
    go_wp2_with fail
    refine HE8.out.use fun w9 hd9 => ?_
    have HB9 := Lib.hid (HB8.out.trans (hd9.below _))
    clear hd9 HR8 HE8
    go_wp2_with fail
    refine (awake_any _).use fun wa hba => ?_
    have HBa := Lib.hid (HB9.out.trans (hba.mono HB9.out.size))
    clear hba
    go_wp2
    go_ret
    exact ⟨rfl, HBa.out⟩
end Go.Proofs.Ytocfbafcplhmiaa
