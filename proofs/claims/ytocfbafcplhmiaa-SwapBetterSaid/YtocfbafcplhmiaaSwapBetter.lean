/- SwapBetter, walked. -/
import Derived.Test.YtocfbafcplhmiaaUzt
import Derived.Test.YtocfbafcplhmiaaUl
namespace Go.Proofs.Ytocfbafcplhmiaa
open Go.RowKit

set_option maxHeartbeats 8000000 in
set_option maxRecDepth 1000000 in
theorem swapBetter_walk (A : Option Addr) (n c : Nat) (L : Nat → Nat) (v : Nat → Nat → Int) (C : Option Addr) (m d : Nat) (f : Nat → Int) (w : World) (h : ArgR w A n c L v) (ho : ArgI w C m d f) :
    Calls Try.prog 16 #[.slice A n c, .slice C m d] w fun e w' => e = .returned (.bool true) ∧ Below w.heap.size w w' := by
  have H := Lib.hid h
  clear h
  have HO := Lib.hid ho
  clear ho
  go_enter Try.func16, Try.ntmps16
  have HB0 := Lib.hid (Below.refl w.heap.size w)
  go_wp2_with fail
  refine (few7_any A n c L v w (H.out.below HB0.out)).mono ?_
  rintro e w1 ⟨x, rfl, hx, hb⟩
  obtain ⟨Aa, ca, rfl, hr, hcc⟩ := hx.own.rowsKs
  clear hx hcc
  have hbb := hb
  have HB1 := Lib.hid (HB0.out.trans (hbb.mono HB0.out.size))
  clear hbb
  clear hb
  have a_1 := Lib.hid (hr)
  clear hr
  go_wp2_with fail
  refine (list7_any C m d f w1 (HO.out.below HB1.out)).mono ?_
  rintro e w2 ⟨x, rfl, hx, hb⟩
  obtain ⟨Ao, co, rfl, hr, hco⟩ := hx.sl1
  clear hx
  have hbb := hb
  have HB2 := Lib.hid (HB1.out.trans (hbb.mono HB1.out.size))
  have a_2 := Lib.hid (a_1.out.keep hbb)
  clear a_1
  clear hbb
  clear hb
  have o_2 := Lib.hid (hr)
  clear hr
  cases hok : okS n L v with
  | false =>
    have HOk := Lib.hid hok
    have HFi := Lib.hid (fun w (h : ArgR w A n c L v) (ho : ArgI w C m d f) => fine_any A n c L v C m d f w h ho)
    rw [hok, Bool.false_and] at HFi
    clear hok
    go_wp2_with fail
    refine (BetterFbad (cA := ca) (cG := co) a_2.out rfl HOk.out).use fun w3 hb => ?_
    have hbb := hb
    have HB3 := Lib.hid (HB2.out.trans (hbb.mono HB2.out.size))
    have a_3 := Lib.hid (a_2.out.keep hbb)
    clear a_2
    have o_3 := Lib.hid (o_2.out.keep hbb)
    clear o_2
    clear hbb
    clear hb
    clear a_3
    clear o_3
    go_wp2_with fail
    refine (few7_any A n c L v w3 (H.out.below HB3.out)).mono ?_
    rintro e w4 ⟨x, rfl, hx, hb⟩
    obtain ⟨Ab, cb, rfl, hr, hcc⟩ := hx.own.rowsKs
    clear hx hcc
    have hbb := hb
    have HB4 := Lib.hid (HB3.out.trans (hbb.mono HB3.out.size))
    clear hbb
    clear hb
    have b_4 := Lib.hid (hr)
    clear hr
    go_wp2_with fail
    refine (list7_any C m d f w4 (HO.out.below HB4.out)).mono ?_
    rintro e w5 ⟨x, rfl, hx, hb⟩
    obtain ⟨Ap, cp, rfl, hr, hcp⟩ := hx.sl1
    clear hx
    have hbb := hb
    have HB5 := Lib.hid (HB4.out.trans (hbb.mono HB4.out.size))
    have b_5 := Lib.hid (b_4.out.keep hbb)
    clear b_4
    clear hbb
    clear hb
    have p_5 := Lib.hid (hr)
    clear hr
    go_wp2_with fail
    refine (OrderFbad (cA := cb) (cG := cp) b_5.out rfl HOk.out).use fun w6 hb => ?_
    have hbb := hb
    have HB6 := Lib.hid (HB5.out.trans (hbb.mono HB5.out.size))
    have b_6 := Lib.hid (b_5.out.keep hbb)
    clear b_5
    have p_6 := Lib.hid (p_5.out.keep hbb)
    clear p_5
    clear hbb
    clear hb
    clear b_6
    clear p_6
    go_wp2_with fail
    refine (HFi.out w6 (H.out.below HB6.out) (HO.out.below HB6.out)).use fun w7 hb => ?_
    have hbb := hb.below w6.heap.size
    have HB7 := Lib.hid (HB6.out.trans (hbb.mono HB6.out.size))
    clear hbb
    clear hb
    go_wp2_with fail
    refine (awake_any _).use fun w8 hb => ?_
    have hbb := hb
    have HB8 := Lib.hid (HB7.out.trans (hbb.mono HB7.out.size))
    clear hbb
    clear hb
    go_wp2
    go_ret
    exact ⟨rfl, HB8.out⟩
  | true =>
    obtain ⟨⟨hn1, hn5⟩, -, hpm0, -⟩ := okS_pm hok
    have HOk := Lib.hid hok
    have HPm := Lib.hid hpm0
    have HWi := Lib.hid (fun w (h : ArgR w A n c L v) => h.wis hok)
    have HFi := Lib.hid (fun w (h : ArgR w A n c L v) (ho : ArgI w C m d f) => fine_any A n c L v C m d f w h ho)
    rw [hok, Bool.true_and] at HFi
    clear hok hpm0
    cases hof : ordB n m f with
    | false =>
      have HOf := Lib.hid hof
      rw [hof] at HFi
      clear hof
      go_wp2_with fail
      refine (BetterFbad2 (cA := ca) (cG := co) a_2.out rfl HOk.out o_2.out rfl hco HOf.out).use fun w3 hb => ?_
      have hbb := hb
      have HB3 := Lib.hid (HB2.out.trans (hbb.mono HB2.out.size))
      have a_3 := Lib.hid (a_2.out.keep hbb)
      clear a_2
      have o_3 := Lib.hid (o_2.out.keep hbb)
      clear o_2
      clear hbb
      clear hb
      clear a_3
      clear o_3
      go_wp2_with fail
      refine (few7_any A n c L v w3 (H.out.below HB3.out)).mono ?_
      rintro e w4 ⟨x, rfl, hx, hb⟩
      obtain ⟨Ab, cb, rfl, hr, hcc⟩ := hx.own.rowsKs
      clear hx hcc
      have hbb := hb
      have HB4 := Lib.hid (HB3.out.trans (hbb.mono HB3.out.size))
      clear hbb
      clear hb
      have b_4 := Lib.hid (hr)
      clear hr
      go_wp2_with fail
      refine (list7_any C m d f w4 (HO.out.below HB4.out)).mono ?_
      rintro e w5 ⟨x, rfl, hx, hb⟩
      obtain ⟨Ap, cp, rfl, hr, hcp⟩ := hx.sl1
      clear hx
      have hbb := hb
      have HB5 := Lib.hid (HB4.out.trans (hbb.mono HB4.out.size))
      have b_5 := Lib.hid (b_4.out.keep hbb)
      clear b_4
      clear hbb
      clear hb
      have p_5 := Lib.hid (hr)
      clear hr
      go_wp2_with fail
      refine (OrderFbad2 (cA := cb) (cG := cp) b_5.out rfl HOk.out p_5.out rfl hcp HOf.out).use fun w6 hb => ?_
      have hbb := hb
      have HB6 := Lib.hid (HB5.out.trans (hbb.mono HB5.out.size))
      have b_6 := Lib.hid (b_5.out.keep hbb)
      clear b_5
      have p_6 := Lib.hid (p_5.out.keep hbb)
      clear p_5
      clear hbb
      clear hb
      clear b_6
      clear p_6
      go_wp2_with fail
      refine (HFi.out w6 (H.out.below HB6.out) (HO.out.below HB6.out)).use fun w7 hb => ?_
      have hbb := hb.below w6.heap.size
      have HB7 := Lib.hid (HB6.out.trans (hbb.mono HB6.out.size))
      clear hbb
      clear hb
      go_wp2_with fail
      refine (awake_any _).use fun w8 hb => ?_
      have hbb := hb
      have HB8 := Lib.hid (HB7.out.trans (hbb.mono HB7.out.size))
      clear hbb
      clear hb
      go_wp2
      go_ret
      exact ⟨rfl, HB8.out⟩
    | true =>
      rw [hof] at HFi
      obtain ⟨hmn, hpm, hfe⟩ := ordB_pm hof
      have HPo := Lib.hid hpm
      have HFe := Lib.hid hfe
      have HM7 : Hid (min m 7 = n) := Lib.hid (by omega)
      have HCv : Hid (∀ (w : World) (A : Option Addr), Ints w A (min m 7) f → Ints w A (min m 7) (fun p => (fO f p : Int))) := Lib.hid (fun w A h => h.congr (fun p hp => HFe.out p (by omega)))
      have HCo : Hid (∀ w, ArgI w C m d f → Ints w C n (fun p => (fO f p : Int))) := Lib.hid (fun w h => by
        have h2 := h.2.2.2
        rw [hmn] at h2
        exact h2.congr (fun p hp => HFe.out p hp))
      have HRB := Lib.hid (fun w (hw : Wis w A n (tO v)) (ho : Ints w C n (fun p => (fO f p : Int))) => refBetterU (g := fO f) (cG := d) c hw ho hn5 HPm.out HPo.out)
      have HRO := Lib.hid (fun w (hw : Wis w A n (tO v)) (ho : Ints w C n (fun p => (fO f p : Int))) => refOrderU (g := fO f) (cG := d) c hw ho hn5 HPm.out)
      have HBe := Lib.hid (fun (w : World) (X : Option Addr) (k cX : Nat) (Y : Option Addr) (q cY : Nat) (h : RowsK w X k (fun i => min (L i) 7) v) (hk : k = min n 7) (hG : Ints w Y q (fun p => (fO f p : Int))) (hq : q = n) (hc : q ≤ cY) => BetterU (cA := cX) (g := fO f) h hk HOk.out hG hq hc HPo.out)
      have HOe := Lib.hid (fun (w : World) (X : Option Addr) (k cX : Nat) (Y : Option Addr) (q cY : Nat) (h : RowsK w X k (fun i => min (L i) 7) v) (hk : k = min n 7) (hG : Ints w Y q (fun p => (fO f p : Int))) (hq : q = n) (hc : q ≤ cY) => OrderU (cA := cX) (g := fO f) h hk HOk.out hG hq hc HPo.out)
      have hmd : m = n := hmn
      have HMd := Lib.hid hmd
      generalize (ordL (List.range n) n []).find? (btP (tO v) n (fO f)) = rb at *
      generalize (ordL (List.range n) n []).find? (odP (tO v) n (fO f)) = ro at *
      obtain ⟨kb, hkb⟩ : ∃ kb, kb = lnU rb n := ⟨_, rfl⟩
      obtain ⟨ko, hko⟩ : ∃ ko, ko = lnU ro n := ⟨_, rfl⟩
      have hkb5 : kb ≤ 5 := by rw [hkb]; exact lnU_le rb hn5
      have hko5 : ko ≤ 5 := by rw [hko]; exact lnU_le ro hn5
      have hq1 := beq_t (a := erU rb) rfl
      have hq2 := beq_t (a := erU ro) rfl
      unfold AnsU at HRB HRO HBe HOe
      rw [← hkb] at HRB HBe
      rw [← hko] at HRO HOe
      generalize erU rb = eb at *
      generalize erU ro = eo at *
      generalize rwU rb = fb at *
      generalize rwU ro = fo at *
      clear hof hpm hfe hmn hmd hkb hko
      go_wp2_with fail
      refine (HBe.out _ _ _ ca _ _ co a_2.out rfl (HCv.out _ _ o_2.out) HM7.out hco).mono ?_
      rintro e w3 ⟨Ax, cx, rfl, hIx, hb⟩
      have hbb := hb
      have HB3 := Lib.hid (HB2.out.trans (hbb.mono HB2.out.size))
      have a_3 := Lib.hid (a_2.out.keep hbb)
      clear a_2
      have o_3 := Lib.hid (o_2.out.keep hbb)
      clear o_2
      clear hbb
      clear hb
      have X_3 := Lib.hid (hIx)
      clear hIx
      clear a_3
      clear o_3
      go_wp2_with fail
      refine (few7_any A n c L v w3 (H.out.below HB3.out)).mono ?_
      rintro e w4 ⟨x, rfl, hx, hb⟩
      obtain ⟨Ab, cb, rfl, hr, hcc⟩ := hx.own.rowsKs
      clear hx hcc
      have hbb := hb
      have HB4 := Lib.hid (HB3.out.trans (hbb.mono HB3.out.size))
      have X_4 := Lib.hid (X_3.out.keep hbb)
      clear X_3
      clear hbb
      clear hb
      have b_4 := Lib.hid (hr)
      clear hr
      go_wp2_with fail
      refine (list7_any C m d f w4 (HO.out.below HB4.out)).mono ?_
      rintro e w5 ⟨x, rfl, hx, hb⟩
      obtain ⟨Ap, cp, rfl, hr, hcp⟩ := hx.sl1
      clear hx
      have hbb := hb
      have HB5 := Lib.hid (HB4.out.trans (hbb.mono HB4.out.size))
      have X_5 := Lib.hid (X_4.out.keep hbb)
      clear X_4
      have b_5 := Lib.hid (b_4.out.keep hbb)
      clear b_4
      clear hbb
      clear hb
      have p_5 := Lib.hid (hr)
      clear hr
      go_wp2_with fail
      refine (HOe.out _ _ _ cb _ _ cp b_5.out rfl (HCv.out _ _ p_5.out) HM7.out hcp).mono ?_
      rintro e w6 ⟨Ay, cy, rfl, hIy, hb⟩
      have hbb := hb
      have HB6 := Lib.hid (HB5.out.trans (hbb.mono HB5.out.size))
      have X_6 := Lib.hid (X_5.out.keep hbb)
      clear X_5
      have b_6 := Lib.hid (b_5.out.keep hbb)
      clear b_5
      have p_6 := Lib.hid (p_5.out.keep hbb)
      clear p_5
      clear hbb
      clear hb
      have Y_6 := Lib.hid (hIy)
      clear hIy
      clear b_6
      clear p_6
      go_wp2_with fail
      refine (HFi.out w6 (H.out.below HB6.out) (HO.out.below HB6.out)).use fun w7 hb => ?_
      have hbb := hb.below w6.heap.size
      have HB7 := Lib.hid (HB6.out.trans (hbb.mono HB6.out.size))
      have X_7 := Lib.hid (X_6.out.keep hbb)
      clear X_6
      have Y_7 := Lib.hid (Y_6.out.keep hbb)
      clear Y_6
      clear hbb
      clear hb
      have HGl : Hid (∀ w, ArgI w C m d f → (ArgR w A n c L v) → True) := Lib.hid (fun _ _ _ => trivial)
      clear HGl
      have HCn : Hid ((Value.slice C m d) = .slice C n d) := Lib.hid (by rw [HMd.out])
      rw [HMd.out]
      go_wp2_with fail
      refine (HRB.out w7 (HWi.out _ (H.out.below HB7.out)) (HCo.out _ (HO.out.below HB7.out))).mono ?_
      rintro e w8 ⟨Az, cz, rfl, hIz, hb⟩
      have hbb := hb
      have HB8 := Lib.hid (HB7.out.trans (hbb.mono HB7.out.size))
      have X_8 := Lib.hid (X_7.out.keep hbb)
      clear X_7
      have Y_8 := Lib.hid (Y_7.out.keep hbb)
      clear Y_7
      clear hbb
      clear hb
      have Z_8 := Lib.hid (hIz)
      clear hIz
      go_wp2_with fail
      refine (HRO.out w8 (HWi.out _ (H.out.below HB8.out)) (HCo.out _ (HO.out.below HB8.out))).mono ?_
      rintro e w9 ⟨Au, cu, rfl, hIu, hb⟩
      have hbb := hb
      have HB9 := Lib.hid (HB8.out.trans (hbb.mono HB8.out.size))
      have X_9 := Lib.hid (X_8.out.keep hbb)
      clear X_8
      have Y_9 := Lib.hid (Y_8.out.keep hbb)
      clear Y_8
      have Z_9 := Lib.hid (Z_8.out.keep hbb)
      clear Z_8
      clear hbb
      clear hb
      have U_9 := Lib.hid (hIu)
      clear hIu
      have HE1 := Lib.hid (equal_any Ax Az kb kb cx cz fb fb w9 X_9.out Z_9.out (by omega) (by omega))
      rw [eqB_self] at HE1
      go_wp2_with fail
      refine (HE1.out).use fun w10 hb => ?_
      have hbb := hb.below w9.heap.size
      have HB10 := Lib.hid (HB9.out.trans (hbb.mono HB9.out.size))
      have X_10 := Lib.hid (X_9.out.keep hbb)
      clear X_9
      have Y_10 := Lib.hid (Y_9.out.keep hbb)
      clear Y_9
      have Z_10 := Lib.hid (Z_9.out.keep hbb)
      clear Z_9
      have U_10 := Lib.hid (U_9.out.keep hbb)
      clear U_9
      clear hbb
      clear hb
      clear HE1
      have HE2 := Lib.hid (equal_any Ay Au ko ko cy cu fo fo w10 Y_10.out U_10.out (by omega) (by omega))
      rw [eqB_self] at HE2
      go_wp2_with fail
      refine (HE2.out).use fun w11 hb => ?_
      have hbb := hb.below w10.heap.size
      have HB11 := Lib.hid (HB10.out.trans (hbb.mono HB10.out.size))
      have X_11 := Lib.hid (X_10.out.keep hbb)
      clear X_10
      have Y_11 := Lib.hid (Y_10.out.keep hbb)
      clear Y_10
      have Z_11 := Lib.hid (Z_10.out.keep hbb)
      clear Z_10
      have U_11 := Lib.hid (U_10.out.keep hbb)
      clear U_10
      clear hbb
      clear hb
      clear HE2
      go_wp2_with fail
      refine (awake_any _).use fun w12 hb => ?_
      have hbb := hb
      have HB12 := Lib.hid (HB11.out.trans (hbb.mono HB11.out.size))
      have X_12 := Lib.hid (X_11.out.keep hbb)
      clear X_11
      have Y_12 := Lib.hid (Y_11.out.keep hbb)
      clear Y_11
      have Z_12 := Lib.hid (Z_11.out.keep hbb)
      clear Z_11
      have U_12 := Lib.hid (U_11.out.keep hbb)
      clear U_11
      clear hbb
      clear hb
      go_wp2
      go_ret
      exact ⟨rfl, HB12.out⟩
end Go.Proofs.Ytocfbafcplhmiaa
