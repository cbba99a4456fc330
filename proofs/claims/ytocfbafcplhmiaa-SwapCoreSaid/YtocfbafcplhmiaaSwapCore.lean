/- SwapCore, walked. -/
import Derived.Test.YtocfbafcplhmiaaUt
namespace Go.Proofs.Ytocfbafcplhmiaa
open Go.RowKit

set_option maxHeartbeats 8000000 in
set_option maxRecDepth 1000000 in
theorem swapCore_walk (A : Option Addr) (n c : Nat) (L : Nat → Nat) (v : Nat → Nat → Int) (C : Option Addr) (m d : Nat) (f : Nat → Int) (w : World) (h : ArgR w A n c L v) (ho : ArgI w C m d f) :
    Calls Try.prog 12 #[.slice A n c, .slice C m d] w fun e w' => e = .returned (.bool true) ∧ Below w.heap.size w w' := by
  have H := Lib.hid h
  clear h
  have HO := Lib.hid ho
  clear ho
  go_enter Try.func12, Try.ntmps12
  have HB0 := Lib.hid (Below.refl w.heap.size w)
  go_wp2_with fail
  refine (few7_any A n c L v w (H.out.below HB0.out)).mono ?_
  rintro e w1 ⟨x, rfl, hx, hb⟩
  obtain ⟨Aa, ca, rfl, hr, hcc⟩ := hx.own.rowsKs
  clear hx hcc
  have hbb := hb
  have HB1 := Lib.hid (HB0.out.trans (hbb.mono HB0.out.size))
  clear hbb
  clear hb
  have a_1 := Lib.hid (hr)
  clear hr
  cases hok : okS n L v with
  | false =>
    have HTb := Lib.hid (TradeFbad (cA := ca) a_1.out rfl hok)
    clear hok
    go_wp2_with fail
    refine (HTb.out).use fun w2 hb => ?_
    have hbb := hb
    have HB2 := Lib.hid (HB1.out.trans (hbb.mono HB1.out.size))
    have a_2 := Lib.hid (a_1.out.keep hbb)
    clear a_1
    clear hbb
    clear hb
    go_wp2_with fail
    refine (awake_any _).use fun w3 hb => ?_
    have hbb := hb
    have HB3 := Lib.hid (HB2.out.trans (hbb.mono HB2.out.size))
    have a_3 := Lib.hid (a_2.out.keep hbb)
    clear a_2
    clear hbb
    clear hb
    go_wp2
    go_ret
    exact ⟨rfl, HB3.out⟩
  | true =>
    obtain ⟨⟨hn1, hn5⟩, -, -, -⟩ := okS_pm hok
    have HOk := Lib.hid hok
    clear hok
    go_wp2_with fail
    refine (TradeF (cA := ca) a_1.out rfl HOk.out).mono ?_
    rintro e w2 ⟨B, rfl, hB, hT, hb⟩
    have hbb := hb
    have HB2 := Lib.hid (HB1.out.trans (hbb.mono HB1.out.size))
    have a_2 := Lib.hid (a_1.out.keep hbb)
    clear a_1
    clear hbb
    clear hb
    have T_2 := Lib.hid (hT)
    clear hT
    clear a_2
    go_wp2_with fail
    refine (few7_any A n c L v w2 (H.out.below HB2.out)).mono ?_
    rintro e w3 ⟨x, rfl, hx, hb⟩
    obtain ⟨Ab, cb, rfl, hr, hcc⟩ := hx.own.rowsKs
    clear hx hcc
    have hbb := hb
    have HB3 := Lib.hid (HB2.out.trans (hbb.mono HB2.out.size))
    have T_3 := Lib.hid (T_2.out.keep hbb)
    clear T_2
    clear hbb
    clear hb
    have b_3 := Lib.hid (hr)
    clear hr
    have HO1 := Lib.hid (ObjectsF (cA := cb) (cG := n) (g := trV v n) b_3.out rfl HOk.out T_3.out.ints rfl (Nat.le_refl _) (trV_pm HOk.out))
    rw [core_law1 HOk.out] at HO1
    go_wp2_with fail
    refine (HO1.out).use fun w4 hb => ?_
    have hbb := hb
    have HB4 := Lib.hid (HB3.out.trans (hbb.mono HB3.out.size))
    have T_4 := Lib.hid (T_3.out.keep hbb)
    clear T_3
    have b_4 := Lib.hid (b_3.out.keep hbb)
    clear b_3
    clear hbb
    clear hb
    clear HO1
    clear b_4
    go_wp2_with fail
    refine (few7_any A n c L v w4 (H.out.below HB4.out)).mono ?_
    rintro e w5 ⟨x, rfl, hx, hb⟩
    obtain ⟨Ac, cc, rfl, hr, hcc⟩ := hx.own.rowsKs
    clear hx hcc
    have hbb := hb
    have HB5 := Lib.hid (HB4.out.trans (hbb.mono HB4.out.size))
    have T_5 := Lib.hid (T_4.out.keep hbb)
    clear T_4
    clear hbb
    clear hb
    have c_5 := Lib.hid (hr)
    clear hr
    go_wp2_with fail
    refine (list7_any C m d f w5 (HO.out.below HB5.out)).mono ?_
    rintro e w6 ⟨x, rfl, hx, hb⟩
    obtain ⟨Ao, co, rfl, hr, hco⟩ := hx.sl1
    clear hx
    have hbb := hb
    have HB6 := Lib.hid (HB5.out.trans (hbb.mono HB5.out.size))
    have T_6 := Lib.hid (T_5.out.keep hbb)
    clear T_5
    have c_6 := Lib.hid (c_5.out.keep hbb)
    clear c_5
    clear hbb
    clear hb
    have o_6 := Lib.hid (hr)
    clear hr
    cases hof : ordB n m f with
    | false =>
        have HO2 := Lib.hid (ObjectsFbad2 (cA := cc) (cG := co) c_6.out rfl HOk.out o_6.out rfl hco hof)
        clear hof
        go_wp2_with fail
        refine (HO2.out).use fun w7 hb => ?_
        have hbb := hb
        have HB7 := Lib.hid (HB6.out.trans (hbb.mono HB6.out.size))
        have T_7 := Lib.hid (T_6.out.keep hbb)
        clear T_6
        have c_7 := Lib.hid (c_6.out.keep hbb)
        clear c_6
        have o_7 := Lib.hid (o_6.out.keep hbb)
        clear o_6
        clear hbb
        clear hb
        go_wp2_with fail
        refine (awake_any _).use fun w8 hb => ?_
        have hbb := hb
        have HB8 := Lib.hid (HB7.out.trans (hbb.mono HB7.out.size))
        have T_8 := Lib.hid (T_7.out.keep hbb)
        clear T_7
        have c_8 := Lib.hid (c_7.out.keep hbb)
        clear c_7
        have o_8 := Lib.hid (o_7.out.keep hbb)
        clear o_7
        clear hbb
        clear hb
        go_wp2
        go_ret
        exact ⟨rfl, HB8.out⟩
    | true =>
        obtain ⟨rfl, hpm, hfe⟩ := ordB_pm hof
        have hm7 : min m 7 = m := by omega
        have HPm := Lib.hid hpm
        have HFe := Lib.hid hfe
        have hIo : Ints w6 Ao (min m 7) (fun p => (fO f p : Int)) := o_6.out.congr (fun p hp => HFe.out p (by omega))
        have HO2 := Lib.hid (ObjectsF (cA := cc) (cG := co) (g := fO f) c_6.out rfl HOk.out hIo hm7 hco HPm.out)
        clear hIo hof hpm hfe hm7
        rcases core_law2 HOk.out HPm.out with ⟨heq, hV⟩ | ⟨hne, bb, hbb0, hV⟩
        ·
          rw [hV] at HO2
          have HEq := Lib.hid (fun w (h1 : Ints w (some ⟨B, 0, none⟩) m (fun p => (trV v m p : Int))) (h2 : Ints w C m f) => equal_any (some ⟨B, 0, none⟩) C m m m d _ f w h1 h2 (by omega) (by omega))
          have e6 : eqB m m (fun p => (trV v m p : Int)) f = true := by
            unfold eqB
            rw [allB_t (fun k hk => by show decide _ = true; rw [decide_eq_true_iff, HFe.out k hk, heq k hk])]
            simp
          rw [e6] at HEq
          clear hV heq e6
          go_wp2_with fail
          refine (HO2.out).use fun w7 hb => ?_
          have hbb := hb
          have HB7 := Lib.hid (HB6.out.trans (hbb.mono HB6.out.size))
          have T_7 := Lib.hid (T_6.out.keep hbb)
          clear T_6
          have c_7 := Lib.hid (c_6.out.keep hbb)
          clear c_6
          have o_7 := Lib.hid (o_6.out.keep hbb)
          clear o_6
          clear hbb
          clear hb
          clear HO2
          go_wp2_with fail
          refine (HEq.out w7 T_7.out.ints (HO.out.below HB7.out).2.2.2).use fun w8 hb => ?_
          have hbb := hb.below w7.heap.size
          have HB8 := Lib.hid (HB7.out.trans (hbb.mono HB7.out.size))
          have T_8 := Lib.hid (T_7.out.keep hbb)
          clear T_7
          have c_8 := Lib.hid (c_7.out.keep hbb)
          clear c_7
          have o_8 := Lib.hid (o_7.out.keep hbb)
          clear o_7
          clear hbb
          clear hb
          go_wp2_with fail
          refine (awake_any _).use fun w9 hb => ?_
          have hbb := hb
          have HB9 := Lib.hid (HB8.out.trans (hbb.mono HB8.out.size))
          have T_9 := Lib.hid (T_8.out.keep hbb)
          clear T_8
          have c_9 := Lib.hid (c_8.out.keep hbb)
          clear c_8
          have o_9 := Lib.hid (o_8.out.keep hbb)
          clear o_8
          clear hbb
          clear hb
          go_wp2
          go_ret
          exact ⟨rfl, HB9.out⟩
        ·
          rw [hV] at HO2
          have HEq := Lib.hid (fun w (h1 : Ints w (some ⟨B, 0, none⟩) m (fun p => (trV v m p : Int))) (h2 : Ints w C m f) => equal_any (some ⟨B, 0, none⟩) C m m m d _ f w h1 h2 (by omega) (by omega))
          have e6 : eqB m m (fun p => (trV v m p : Int)) f = false := by
            obtain ⟨i, hi, hd⟩ := hne
            unfold eqB
            rw [allB_f hi (by show decide _ = false; rw [decide_eq_false_iff_not, HFe.out i hi]; exact fun hh => hd (Int.ofNat.inj hh).symm)]
            simp
          rw [e6] at HEq
          have hgt : decide ((0 : Int) < (bb : Int)) = true := decide_eq_true (by omega)
          clear hV hne e6
          go_wp2_with fail
          refine (HO2.out).use fun w7 hb => ?_
          have hbb := hb
          have HB7 := Lib.hid (HB6.out.trans (hbb.mono HB6.out.size))
          have T_7 := Lib.hid (T_6.out.keep hbb)
          clear T_6
          have c_7 := Lib.hid (c_6.out.keep hbb)
          clear c_6
          have o_7 := Lib.hid (o_6.out.keep hbb)
          clear o_6
          clear hbb
          clear hb
          clear HO2
          go_wp2_with fail
          refine (HEq.out w7 T_7.out.ints (HO.out.below HB7.out).2.2.2).use fun w8 hb => ?_
          have hbb := hb.below w7.heap.size
          have HB8 := Lib.hid (HB7.out.trans (hbb.mono HB7.out.size))
          have T_8 := Lib.hid (T_7.out.keep hbb)
          clear T_7
          have c_8 := Lib.hid (c_7.out.keep hbb)
          clear c_7
          have o_8 := Lib.hid (o_7.out.keep hbb)
          clear o_7
          clear hbb
          clear hb
          go_wp2_with fail
          refine (awake_any _).use fun w9 hb => ?_
          have hbb := hb
          have HB9 := Lib.hid (HB8.out.trans (hbb.mono HB8.out.size))
          have T_9 := Lib.hid (T_8.out.keep hbb)
          clear T_8
          have c_9 := Lib.hid (c_8.out.keep hbb)
          clear c_8
          have o_9 := Lib.hid (o_8.out.keep hbb)
          clear o_8
          clear hbb
          clear hb
          go_wp2
          go_ret
          exact ⟨rfl, HB9.out⟩
end Go.Proofs.Ytocfbafcplhmiaa
