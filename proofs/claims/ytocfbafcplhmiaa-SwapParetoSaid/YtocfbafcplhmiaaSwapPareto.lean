/- SwapPareto, walked. -/
import Derived.Test.YtocfbafcplhmiaaUzd
namespace Go.Proofs.Ytocfbafcplhmiaa
open Go.RowKit

set_option maxHeartbeats 8000000 in
set_option maxRecDepth 1000000 in
theorem swapPareto_walk (A : Option Addr) (n c : Nat) (L : Nat → Nat) (v : Nat → Nat → Int) (C : Option Addr) (m d : Nat) (f : Nat → Int) (w : World) (h : ArgR w A n c L v) (ho : ArgI w C m d f) :
    Calls Try.prog 11 #[.slice A n c, .slice C m d] w fun e w' => e = .returned (.bool true) ∧ Below w.heap.size w w' := by
  have H := Lib.hid h
  clear h
  have HO := Lib.hid ho
  clear ho
  go_enter Try.func11, Try.ntmps11
  have HB0 := Lib.hid (Below.refl w.heap.size w)
  go_wp2_with fail
  refine (few7_any A n c L v w (H.out.below HB0.out)).mono ?_
  rintro e w1 ⟨x, rfl, hx, hb⟩
  obtain ⟨Aa, ca, rfl, hr, hcc⟩ := hx.own.rowsKs
  clear hx hcc
  have hbb := hb
  have HB1 := Lib.hid (HB0.out.trans (hbb.mono HB0.out.size))
  clear hbb
  clear hb
  have a_1 := Lib.hid (hr)
  clear hr
  go_wp2_with fail
  refine (list7_any C m d f w1 (HO.out.below HB1.out)).mono ?_
  rintro e w2 ⟨x, rfl, hx, hb⟩
  obtain ⟨Ao, co, rfl, hr, hco⟩ := hx.sl1
  clear hx
  have hbb := hb
  have HB2 := Lib.hid (HB1.out.trans (hbb.mono HB1.out.size))
  have a_2 := Lib.hid (a_1.out.keep hbb)
  clear a_1
  clear hbb
  clear hb
  have o_2 := Lib.hid (hr)
  clear hr
  cases hok : okS n L v with
  | false =>
    have HOk := Lib.hid hok
    clear hok
    go_wp2_with fail
    refine (BetterFbad (cA := ca) (cG := co) a_2.out rfl HOk.out).use fun w3 hb => ?_
    have hbb := hb
    have HB3 := Lib.hid (HB2.out.trans (hbb.mono HB2.out.size))
    have a_3 := Lib.hid (a_2.out.keep hbb)
    clear a_2
    have o_3 := Lib.hid (o_2.out.keep hbb)
    clear o_2
    clear hbb
    clear hb
    clear a_3
    clear o_3
    go_wp2_with fail
    refine (few7_any A n c L v w3 (H.out.below HB3.out)).mono ?_
    rintro e w4 ⟨x, rfl, hx, hb⟩
    obtain ⟨Ab, cb, rfl, hr, hcc⟩ := hx.own.rowsKs
    clear hx hcc
    have hbb := hb
    have HB4 := Lib.hid (HB3.out.trans (hbb.mono HB3.out.size))
    clear hbb
    clear hb
    have b_4 := Lib.hid (hr)
    clear hr
    go_wp2_with fail
    refine (list7_any C m d f w4 (HO.out.below HB4.out)).mono ?_
    rintro e w5 ⟨x, rfl, hx, hb⟩
    obtain ⟨Ap, cp, rfl, hr, hcp⟩ := hx.sl1
    clear hx
    have hbb := hb
    have HB5 := Lib.hid (HB4.out.trans (hbb.mono HB4.out.size))
    have b_5 := Lib.hid (b_4.out.keep hbb)
    clear b_4
    clear hbb
    clear hb
    have p_5 := Lib.hid (hr)
    clear hr
    go_wp2_with fail
    refine (OrderFbad (cA := cb) (cG := cp) b_5.out rfl HOk.out).use fun w6 hb => ?_
    have hbb := hb
    have HB6 := Lib.hid (HB5.out.trans (hbb.mono HB5.out.size))
    have b_6 := Lib.hid (b_5.out.keep hbb)
    clear b_5
    have p_6 := Lib.hid (p_5.out.keep hbb)
    clear p_5
    clear hbb
    clear hb
    clear b_6
    clear p_6
    go_wp2_with fail
    refine (awake_any _).use fun w7 hb => ?_
    have hbb := hb
    have HB7 := Lib.hid (HB6.out.trans (hbb.mono HB6.out.size))
    clear hbb
    clear hb
    go_wp2
    go_ret
    exact ⟨rfl, HB7.out⟩
  | true =>
    obtain ⟨⟨hn1, hn5⟩, -, hpm0, -⟩ := okS_pm hok
    have HOk := Lib.hid hok
    have HPm := Lib.hid hpm0
    have HLn := Lib.hid (okS_pm hok).2.1
    have HVe := Lib.hid (okS_pm hok).2.2.2
    clear hok hpm0
    cases hof : ordB n m f with
    | false =>
      have HOf := Lib.hid hof
      clear hof
      go_wp2_with fail
      refine (BetterFbad2 (cA := ca) (cG := co) a_2.out rfl HOk.out o_2.out rfl hco HOf.out).use fun w3 hb => ?_
      have hbb := hb
      have HB3 := Lib.hid (HB2.out.trans (hbb.mono HB2.out.size))
      have a_3 := Lib.hid (a_2.out.keep hbb)
      clear a_2
      have o_3 := Lib.hid (o_2.out.keep hbb)
      clear o_2
      clear hbb
      clear hb
      clear a_3
      clear o_3
      go_wp2_with fail
      refine (few7_any A n c L v w3 (H.out.below HB3.out)).mono ?_
      rintro e w4 ⟨x, rfl, hx, hb⟩
      obtain ⟨Ab, cb, rfl, hr, hcc⟩ := hx.own.rowsKs
      clear hx hcc
      have hbb := hb
      have HB4 := Lib.hid (HB3.out.trans (hbb.mono HB3.out.size))
      clear hbb
      clear hb
      have b_4 := Lib.hid (hr)
      clear hr
      go_wp2_with fail
      refine (list7_any C m d f w4 (HO.out.below HB4.out)).mono ?_
      rintro e w5 ⟨x, rfl, hx, hb⟩
      obtain ⟨Ap, cp, rfl, hr, hcp⟩ := hx.sl1
      clear hx
      have hbb := hb
      have HB5 := Lib.hid (HB4.out.trans (hbb.mono HB4.out.size))
      have b_5 := Lib.hid (b_4.out.keep hbb)
      clear b_4
      clear hbb
      clear hb
      have p_5 := Lib.hid (hr)
      clear hr
      go_wp2_with fail
      refine (OrderFbad2 (cA := cb) (cG := cp) b_5.out rfl HOk.out p_5.out rfl hcp HOf.out).use fun w6 hb => ?_
      have hbb := hb
      have HB6 := Lib.hid (HB5.out.trans (hbb.mono HB5.out.size))
      have b_6 := Lib.hid (b_5.out.keep hbb)
      clear b_5
      have p_6 := Lib.hid (p_5.out.keep hbb)
      clear p_5
      clear hbb
      clear hb
      clear b_6
      clear p_6
      go_wp2_with fail
      refine (awake_any _).use fun w7 hb => ?_
      have hbb := hb
      have HB7 := Lib.hid (HB6.out.trans (hbb.mono HB6.out.size))
      clear hbb
      clear hb
      go_wp2
      go_ret
      exact ⟨rfl, HB7.out⟩
    | true =>
      have HFi := Lib.hid (fun w (h : ArgR w A n c L v) (ho : ArgI w C m d f) => fine_any A n c L v C m d f w h ho)
      rw [HOk.out, hof, Bool.and_true] at HFi
      obtain ⟨hmn, hpm, hfe⟩ := ordB_pm hof
      have HPo := Lib.hid hpm
      have HFe := Lib.hid hfe
      have HMN := Lib.hid hmn
      have HM7 : Hid (min m 7 = n) := Lib.hid (by omega)
      have HCv : Hid (∀ (w : World) (A : Option Addr), Ints w A (min m 7) f → Ints w A (min m 7) (fun p => (fO f p : Int))) := Lib.hid (fun w A h => h.congr (fun p hp => HFe.out p (by omega)))
      have HEq := Lib.hid (fun (w : World) (X : Option Addr) (cx : Nat) (u : Nat → Nat) (h1 : Ints w X n (fun p => (u p : Int))) (h2 : Ints w C m f) (hu : ∀ i, i < n → u i = fO f i) => (show Ro 26 #[.slice X n cx, .slice C m d] w (.bool true) from by
        have := equal_any X C n m cx d _ f w h1 h2 (by omega) (by omega)
        rw [show eqB n m (fun p => (u p : Int)) f = true from by
          unfold eqB
          rw [allB_t (fun k hk => by show decide _ = true; rw [decide_eq_true_iff, HFe.out k hk]; show ((u k : Nat) : Int) = ((fO f k : Nat) : Int); rw [hu k hk])]
          simp [hmn]] at this
        exact this))
      clear hof hpm hfe hmn
      by_cases hb : NoB (tO v) n (fO f)
      ·
        have HNb := Lib.hid hb
        clear hb
        go_wp2_with fail
        refine (BetterN (cA := ca) (cG := co) (g := fO f) a_2.out rfl HOk.out (HCv.out _ _ o_2.out) HM7.out hco HPo.out HNb.out).use fun w3 hb => ?_
        have hbb := hb
        have HB3 := Lib.hid (HB2.out.trans (hbb.mono HB2.out.size))
        have a_3 := Lib.hid (a_2.out.keep hbb)
        clear a_2
        have o_3 := Lib.hid (o_2.out.keep hbb)
        clear o_2
        clear hbb
        clear hb
        clear a_3
        clear o_3
        go_wp2_with fail
        refine (few7_any A n c L v w3 (H.out.below HB3.out)).mono ?_
        rintro e w4 ⟨x, rfl, hx, hb⟩
        obtain ⟨Ab, cb, rfl, hr, hcc⟩ := hx.own.rowsKs
        clear hx hcc
        have hbb := hb
        have HB4 := Lib.hid (HB3.out.trans (hbb.mono HB3.out.size))
        clear hbb
        clear hb
        have b_4 := Lib.hid (hr)
        clear hr
        go_wp2_with fail
        refine (list7_any C m d f w4 (HO.out.below HB4.out)).mono ?_
        rintro e w5 ⟨x, rfl, hx, hb⟩
        obtain ⟨Ap, cp, rfl, hr, hcp⟩ := hx.sl1
        clear hx
        have hbb := hb
        have HB5 := Lib.hid (HB4.out.trans (hbb.mono HB4.out.size))
        have b_5 := Lib.hid (b_4.out.keep hbb)
        clear b_4
        clear hbb
        clear hb
        have p_5 := Lib.hid (hr)
        clear hr
        go_wp2_with fail
        refine (OrderS (cA := cb) (cG := cp) (g := fO f) b_5.out rfl HOk.out (HCv.out _ _ p_5.out) HM7.out hcp HPo.out HNb.out).mono ?_
        rintro e w6 ⟨x, Ax, cx, rfl, hIx, hcx, hpx, hch, hb⟩
        have hbb := hb
        have HB6 := Lib.hid (HB5.out.trans (hbb.mono HB5.out.size))
        have b_6 := Lib.hid (b_5.out.keep hbb)
        clear b_5
        have p_6 := Lib.hid (p_5.out.keep hbb)
        clear p_5
        clear hbb
        clear hb
        have X_6 := Lib.hid (hIx)
        clear hIx
        clear b_6
        clear p_6
        have HPx := Lib.hid hpx
        have HCh := Lib.hid hch
        clear hpx hch
        go_wp2_with fail
        refine (HFi.out w6 (H.out.below HB6.out) (HO.out.below HB6.out)).use fun w7 hb => ?_
        have hbb := hb.below w6.heap.size
        have HB7 := Lib.hid (HB6.out.trans (hbb.mono HB6.out.size))
        have X_7 := Lib.hid (X_6.out.keep hbb)
        clear X_6
        clear hbb
        clear hb
        go_wp2_with fail
        refine (few7_any A n c L v w7 (H.out.below HB7.out)).mono ?_
        rintro e w8 ⟨x, rfl, hx, hb⟩
        obtain ⟨Ac, cc, rfl, hr, hcc⟩ := hx.own.rowsKs
        clear hx hcc
        have hbb := hb
        have HB8 := Lib.hid (HB7.out.trans (hbb.mono HB7.out.size))
        have X_8 := Lib.hid (X_7.out.keep hbb)
        clear X_7
        clear hbb
        clear hb
        have c_8 := Lib.hid (hr)
        clear hr
        go_wp2_with fail
        refine (ChooseF (cA := cc) (cG := cx) (g := rN x) c_8.out rfl HOk.out X_8.out rfl hcx HPx.out).mono ?_
        rintro e w9 ⟨BC, rfl, hBC, hRC, hb⟩
        have hbb := hb
        have HB9 := Lib.hid (HB8.out.trans (hbb.mono HB8.out.size))
        have X_9 := Lib.hid (X_8.out.keep hbb)
        clear X_8
        have c_9 := Lib.hid (c_8.out.keep hbb)
        clear c_8
        clear hbb
        clear hb
        have R_9 := Lib.hid (hRC)
        clear hRC
        clear c_9
        go_wp2_with fail
        refine (HEq.out w9 (some ⟨BC, 0, none⟩) n _ R_9.out.ints (HO.out.below HB9.out).2.2.2 HCh.out).use fun w10 hb => ?_
        have hbb := hb.below w9.heap.size
        have HB10 := Lib.hid (HB9.out.trans (hbb.mono HB9.out.size))
        have X_10 := Lib.hid (X_9.out.keep hbb)
        clear X_9
        have R_10 := Lib.hid (R_9.out.keep hbb)
        clear R_9
        clear hbb
        clear hb
        go_wp2_with fail
        refine (few7_any A n c L v w10 (H.out.below HB10.out)).mono ?_
        rintro e w11 ⟨x, rfl, hx, hb⟩
        obtain ⟨Ay, cy, rfl, hr, hcc⟩ := hx.own.rowsKs
        clear hx hcc
        have hbb := hb
        have HB11 := Lib.hid (HB10.out.trans (hbb.mono HB10.out.size))
        have X_11 := Lib.hid (X_10.out.keep hbb)
        clear X_10
        have R_11 := Lib.hid (R_10.out.keep hbb)
        clear R_10
        clear hbb
        clear hb
        have y_11 := Lib.hid (hr)
        clear hr
        go_wp2_with fail
        refine (TradeF (cA := cy) y_11.out rfl HOk.out).mono ?_
        rintro e w12 ⟨BT, rfl, hBT, hT, hb⟩
        have hbb := hb
        have HB12 := Lib.hid (HB11.out.trans (hbb.mono HB11.out.size))
        have X_12 := Lib.hid (X_11.out.keep hbb)
        clear X_11
        have R_12 := Lib.hid (R_11.out.keep hbb)
        clear R_11
        have y_12 := Lib.hid (y_11.out.keep hbb)
        clear y_11
        clear hbb
        clear hb
        have T_12 := Lib.hid (hT)
        clear hT
        clear y_12
        go_wp2_with fail
        refine (few7_any A n c L v w12 (H.out.below HB12.out)).mono ?_
        rintro e w13 ⟨x, rfl, hx, hb⟩
        obtain ⟨Az, cz, rfl, hr, hcc⟩ := hx.own.rowsKs
        clear hx hcc
        have hbb := hb
        have HB13 := Lib.hid (HB12.out.trans (hbb.mono HB12.out.size))
        have X_13 := Lib.hid (X_12.out.keep hbb)
        clear X_12
        have R_13 := Lib.hid (R_12.out.keep hbb)
        clear R_12
        have T_13 := Lib.hid (T_12.out.keep hbb)
        clear T_12
        clear hbb
        clear hb
        have z_13 := Lib.hid (hr)
        clear hr
        go_wp2_with fail
        refine (BetterN (cA := cz) (cG := n) (g := trV v n) z_13.out rfl HOk.out T_13.out.ints rfl (Nat.le_refl _) (trV_pm HOk.out) (trade_best HOk.out)).use fun w14 hb => ?_
        have hbb := hb
        have HB14 := Lib.hid (HB13.out.trans (hbb.mono HB13.out.size))
        have X_14 := Lib.hid (X_13.out.keep hbb)
        clear X_13
        have R_14 := Lib.hid (R_13.out.keep hbb)
        clear R_13
        have T_14 := Lib.hid (T_13.out.keep hbb)
        clear T_13
        have z_14 := Lib.hid (z_13.out.keep hbb)
        clear z_13
        clear hbb
        clear hb
        go_wp2_with fail
        refine (awake_any _).use fun w15 hb => ?_
        have hbb := hb
        have HB15 := Lib.hid (HB14.out.trans (hbb.mono HB14.out.size))
        have X_15 := Lib.hid (X_14.out.keep hbb)
        clear X_14
        have R_15 := Lib.hid (R_14.out.keep hbb)
        clear R_14
        have T_15 := Lib.hid (T_14.out.keep hbb)
        clear T_14
        have z_15 := Lib.hid (z_14.out.keep hbb)
        clear z_14
        clear hbb
        clear hb
        go_wp2
        go_ret
        exact ⟨rfl, HB15.out⟩
      ·
        have HNb := Lib.hid hb
        clear hb
        go_wp2_with fail
        refine (BetterS (cA := ca) (cG := co) (g := fO f) a_2.out rfl HOk.out (HCv.out _ _ o_2.out) HM7.out hco HPo.out HNb.out).mono ?_
        rintro e w3 ⟨x, Ax, cx, rfl, hIx, hpx, hbx, hb⟩
        have hbb := hb
        have HB3 := Lib.hid (HB2.out.trans (hbb.mono HB2.out.size))
        have a_3 := Lib.hid (a_2.out.keep hbb)
        clear a_2
        have o_3 := Lib.hid (o_2.out.keep hbb)
        clear o_2
        clear hbb
        clear hb
        have X_3 := Lib.hid (hIx)
        clear hIx
        clear a_3
        clear o_3
        have HPx := Lib.hid hpx
        have HLe := Lib.hid hbx.1
        have HSt := Lib.hid hbx.2
        clear hpx hbx
        go_wp2_with fail
        refine (few7_any A n c L v w3 (H.out.below HB3.out)).mono ?_
        rintro e w4 ⟨x, rfl, hx, hb⟩
        obtain ⟨Ab, cb, rfl, hr, hcc⟩ := hx.own.rowsKs
        clear hx hcc
        have hbb := hb
        have HB4 := Lib.hid (HB3.out.trans (hbb.mono HB3.out.size))
        have X_4 := Lib.hid (X_3.out.keep hbb)
        clear X_3
        clear hbb
        clear hb
        have b_4 := Lib.hid (hr)
        clear hr
        go_wp2_with fail
        refine (list7_any C m d f w4 (HO.out.below HB4.out)).mono ?_
        rintro e w5 ⟨x, rfl, hx, hb⟩
        obtain ⟨Ap, cp, rfl, hr, hcp⟩ := hx.sl1
        clear hx
        have hbb := hb
        have HB5 := Lib.hid (HB4.out.trans (hbb.mono HB4.out.size))
        have X_5 := Lib.hid (X_4.out.keep hbb)
        clear X_4
        have b_5 := Lib.hid (b_4.out.keep hbb)
        clear b_4
        clear hbb
        clear hb
        have p_5 := Lib.hid (hr)
        clear hr
        go_wp2_with fail
        refine (OrderN (cA := cb) (cG := cp) (g := fO f) b_5.out rfl HOk.out (HCv.out _ _ p_5.out) HM7.out hcp HPo.out HNb.out).use fun w6 hb => ?_
        have hbb := hb
        have HB6 := Lib.hid (HB5.out.trans (hbb.mono HB5.out.size))
        have X_6 := Lib.hid (X_5.out.keep hbb)
        clear X_5
        have b_6 := Lib.hid (b_5.out.keep hbb)
        clear b_5
        have p_6 := Lib.hid (p_5.out.keep hbb)
        clear p_5
        clear hbb
        clear hb
        clear b_6
        clear p_6
        go_wp2_with fail
        refine (HFi.out w6 (H.out.below HB6.out) (HO.out.below HB6.out)).use fun w7 hb => ?_
        have hbb := hb.below w6.heap.size
        have HB7 := Lib.hid (HB6.out.trans (hbb.mono HB6.out.size))
        have X_7 := Lib.hid (X_6.out.keep hbb)
        clear X_6
        clear hbb
        clear hb
        have HAs : Hid (∀ j, anyB (fun i => decide (owF (tO v i) n (rN x i) < owF (tO v i) n (fO f i))) (j + 1) = (anyB (fun i => decide (owF (tO v i) n (rN x i) < owF (tO v i) n (fO f i))) j || decide (owF (tO v j) n (rN x j) < owF (tO v j) n (fO f j)))) := Lib.hid (fun _ => rfl)
        have HAz : Hid (anyB (fun i => decide (owF (tO v i) n (rN x i) < owF (tO v i) n (fO f i))) 0 = false) := Lib.hid rfl
        have HAn : Hid (anyB (fun i => decide (owF (tO v i) n (rN x i) < owF (tO v i) n (fO f i))) n = true) := Lib.hid (by
          obtain ⟨i, hi, h⟩ := HSt.out
          exact anyB_t hi (by simpa using h))
        generalize anyB (fun i => decide (owF (tO v i) n (rN x i) < owF (tO v i) n (fO f i))) = am at *
        go_wp2_with fail
        go_loopw [11, 88] (fun mo i wr => ∃ j : Nat, j ≤ n ∧ i = .int .i64 j ∧ mo = .bool (am j) ∧ Below w7.heap.size w7 wr) (fun _ i _ => n - (intOf i).toNat)
        case atStart => exact ⟨0, Nat.zero_le _, rfl, by rw [HAz.out], Below.refl _ _⟩
        case round =>
          obtain ⟨j, hj, rfl, rfl, hD⟩ := hrel
          have HD := Lib.hid hD
          clear hD
          by_cases hlt : j < n
          · obtain ⟨b, o, A', c', rfl, hc, hA'⟩ := (H.out.below (HB7.out.trans (HD.out.mono HB7.out.size))).at hlt
            have eL := HLn.out j hlt
            rw [eL] at hc hA'
            obtain ⟨bx, ox, rfl, hcx⟩ := (X_7.out.keep HD.out).at hlt
            obtain ⟨bo, oo, rfl, hco2⟩ := (HO.out.below (HB7.out.trans (HD.out.mono HB7.out.size))).2.2.2.at (show j < m by have := HMN.out; omega)
            have hjm : j < m := by have := HMN.out; omega
            have hfj := HFe.out j hlt
            rw [hfj] at hco2
            have hcx2 : wr.cell? ⟨bx, ox + j, none⟩ = some (.int .i64 ((rN x j : Nat) : Int)) := hcx
            have hxl := HPx.out.lt j hlt
            have hol := HPo.out.lt j hlt
            have hvt : ∀ q, q < n → v j q = (tO v j q : Int) := fun q hq => HVe.out j q hlt hq
            have HI1 := Lib.hid (fun (q : Later wr) (y : Int) => Lr.same (index_any A' n c' (fun q => (tO v j q : Int)) y q.to ((hA'.2.2.2.congr hvt).keep q.below) (by omega)))
            have e1 := idx_owF (HPm.out j hlt) hxl
            have e2 := idx_owF (HPm.out j hlt) hol
            have HLej := Lib.hid (HLe.out j hlt)
            have HAj := Lib.hid (HAs.out j)
            have q0 : ∀ q : Later wr, q.to.cell? ⟨b, o + j, none⟩ = some (.slice A' n c') := fun q => q.cell hc
            have q1 : ∀ q : Later wr, q.to.cell? ⟨bx, ox + j, none⟩ = some (.int .i64 ((rN x j : Nat) : Int)) := fun q => q.cell hcx2
            have q2 : ∀ q : Later wr, q.to.cell? ⟨bo, oo + j, none⟩ = some (.int .i64 ((fO f j : Nat) : Int)) := fun q => q.cell hco2
            have HE1 := Lib.hid e1
            have HE2 := Lib.hid e2
            clear hc hcx hcx2 hco2 hA' eL hfj hvt hxl hol e1 e2
            generalize rN x j = xj at *
            generalize fO f j = fj at *
            generalize idxI (fun q => (tO v j q : Int)) = ix at *
            generalize owF (tO v j) n xj = r1 at *
            generalize owF (tO v j) n fj = r2 at *
            go_wp2_with fail
            refine wp_region_later (by kernel_rfl) (by kernel_rfl) ?_
            repeat
              (with_reducible refine wpQuiet_step ?_
               intro K hK
               go_simp
               first
                 | (refine hK _ ?_; clear hK K)
                 | (apply Exists.intro
                    refine ⟨fun _ => ?_, hK _ ?_⟩
                    (go_at_call 29; exact Lr.later (HI1.out _ _))
                    clear hK K))
            with_reducible refine wpQuiet_nil ?_
            intro W2 hw'
            obtain ⟨p2, hw''⟩ := hw'
            have hp2 := p2.below
            rw [← hw''] at hp2
            clear hw'' p2
            have HD2 := Lib.hid (HD.out.trans (hp2.mono HD.out.size))
            rw [HE1.out, HE2.out]
            have hle := HLej.out
            have hd1 : decide ((r1 : Int) < 0) = false := decide_eq_false (by omega)
            have hd2 : decide ((r2 : Int) < (r1 : Int)) = false := decide_eq_false (by omega)
            have hd4 : decide (r2 < r1) = false := decide_eq_false (by omega)
            clear hp2 q0 q1 q2
            cases hmo : am j with
            | true =>
              have HV : Hid (am (j + 1) = true) := Lib.hid (by rw [HAj.out, hmo]; rfl)
              clear hmo
              go_wp2
              go_roundw
              case rel => exact ⟨j + 1, by omega, by go_num, by rw [HV.out], HD2.out⟩
              case measure => simp [intOf]; omega
            | false =>
              have HV : Hid (am (j + 1) = decide (r1 < r2)) := Lib.hid (by rw [HAj.out, hmo]; rfl)
              clear hmo
              by_cases hr : r1 < r2
              · have hd3 : decide ((r1 : Int) < (r2 : Int)) = true := decide_eq_true (by omega)
                have HV2 : Hid (am (j + 1) = true) := Lib.hid (by rw [HV.out, decide_eq_true hr])
                go_wp2
                go_roundw
                case rel => exact ⟨j + 1, by omega, by go_num, by rw [HV2.out], HD2.out⟩
                case measure => simp [intOf]; omega
              · have hd3 : decide ((r1 : Int) < (r2 : Int)) = false := decide_eq_false (by omega)
                have HV2 : Hid (am (j + 1) = false) := Lib.hid (by rw [HV.out, decide_eq_false hr])
                go_wp2
                go_roundw
                case rel => exact ⟨j + 1, by omega, by go_num, by rw [HV2.out], HD2.out⟩
                case measure => simp [intOf]; omega
          ·
            obtain rfl : j = n := by omega
            rw [HAn.out]
            have hEnd := HD.out
            have HB8 := Lib.hid (HB7.out.trans (hEnd.mono HB7.out.size))
            clear hEnd
            generalize hwz : wr = w8 at *
            clear hwz
            go_wp2_with fail
            refine (few7_any A j c L v w8 (H.out.below HB8.out)).mono ?_
            rintro e w9 ⟨x, rfl, hx, hb⟩
            obtain ⟨Ay, cy, rfl, hr, hcc⟩ := hx.own.rowsKs
            clear hx hcc
            have hbb := hb
            have HB9 := Lib.hid (HB8.out.trans (hbb.mono HB8.out.size))
            clear hbb
            clear hb
            have y_9 := Lib.hid (hr)
            clear hr
            go_wp2_with fail
            refine (TradeF (cA := cy) y_9.out rfl HOk.out).mono ?_
            rintro e w10 ⟨BT, rfl, hBT, hT, hb⟩
            have hbb := hb
            have HB10 := Lib.hid (HB9.out.trans (hbb.mono HB9.out.size))
            have y_10 := Lib.hid (y_9.out.keep hbb)
            clear y_9
            clear hbb
            clear hb
            have T_10 := Lib.hid (hT)
            clear hT
            clear y_10
            go_wp2_with fail
            refine (few7_any A j c L v w10 (H.out.below HB10.out)).mono ?_
            rintro e w11 ⟨x, rfl, hx, hb⟩
            obtain ⟨Az, cz, rfl, hr, hcc⟩ := hx.own.rowsKs
            clear hx hcc
            have hbb := hb
            have HB11 := Lib.hid (HB10.out.trans (hbb.mono HB10.out.size))
            have T_11 := Lib.hid (T_10.out.keep hbb)
            clear T_10
            clear hbb
            clear hb
            have z_11 := Lib.hid (hr)
            clear hr
            go_wp2_with fail
            refine (BetterN (cA := cz) (cG := j) (g := trV v j) z_11.out rfl HOk.out T_11.out.ints rfl (Nat.le_refl _) (trV_pm HOk.out) (trade_best HOk.out)).use fun w12 hb => ?_
            have hbb := hb
            have HB12 := Lib.hid (HB11.out.trans (hbb.mono HB11.out.size))
            have T_12 := Lib.hid (T_11.out.keep hbb)
            clear T_11
            have z_12 := Lib.hid (z_11.out.keep hbb)
            clear z_11
            clear hbb
            clear hb
            go_wp2_with fail
            refine (awake_any _).use fun w13 hb => ?_
            have hbb := hb
            have HB13 := Lib.hid (HB12.out.trans (hbb.mono HB12.out.size))
            have T_13 := Lib.hid (T_12.out.keep hbb)
            clear T_12
            have z_13 := Lib.hid (z_12.out.keep hbb)
            clear z_12
            clear hbb
            clear hb
            go_wp2
            go_ret
            exact ⟨rfl, HB13.out⟩
end Go.Proofs.Ytocfbafcplhmiaa
