/- SwapChoice, walked. -/
import Derived.Test.YtocfbafcplhmiaaUtw
import Derived.Test.YtocfbafcplhmiaaUzd
import Derived.Test.YtocfbafcplhmiaaUl
namespace Go.Proofs.Ytocfbafcplhmiaa
open Go.RowKit

set_option maxHeartbeats 8000000 in
set_option maxRecDepth 1000000 in
theorem swapChoice_walk (A : Option Addr) (n c : Nat) (L : Nat → Nat) (v : Nat → Nat → Int) (C : Option Addr) (m d : Nat) (f : Nat → Int) (w : World) (h : ArgR w A n c L v) (ho : ArgI w C m d f) :
    Calls Try.prog 5 #[.slice A n c, .slice C m d] w fun e w' => e = .returned (.bool true) ∧ Below w.heap.size w w' := by
  have H := Lib.hid h
  clear h
  have HO := Lib.hid ho
  clear ho
  go_enter Try.func5, Try.ntmps5
  have HB0 := Lib.hid (Below.refl w.heap.size w)
  go_wp2_with fail
  refine (few7_any A n c L v w (H.out.below HB0.out)).mono ?_
  rintro e w1 ⟨x, rfl, hx, hb⟩
  obtain ⟨Aa, ca, rfl, hr, hcc⟩ := hx.own.rowsKs
  clear hx hcc
  have hbb := hb
  have HB1 := Lib.hid (HB0.out.trans (hbb.mono HB0.out.size))
  clear hbb
  clear hb
  have a_1 := Lib.hid (hr)
  clear hr
  go_wp2_with fail
  refine (list7_any C m d f w1 (HO.out.below HB1.out)).mono ?_
  rintro e w2 ⟨x, rfl, hx, hb⟩
  obtain ⟨Ao, co, rfl, hr, hco⟩ := hx.sl1
  clear hx
  have hbb := hb
  have HB2 := Lib.hid (HB1.out.trans (hbb.mono HB1.out.size))
  have a_2 := Lib.hid (a_1.out.keep hbb)
  clear a_1
  clear hbb
  clear hb
  have o_2 := Lib.hid (hr)
  clear hr
  cases hok : okS n L v with
  | false =>
    have HOk := Lib.hid hok
    clear hok
    go_wp2_with fail
    refine (ChooseFbad (cA := ca) (cG := co) a_2.out rfl HOk.out).use fun w3 hb => ?_
    have hbb := hb
    have HB3 := Lib.hid (HB2.out.trans (hbb.mono HB2.out.size))
    have a_3 := Lib.hid (a_2.out.keep hbb)
    clear a_2
    have o_3 := Lib.hid (o_2.out.keep hbb)
    clear o_2
    clear hbb
    clear hb
    clear a_3
    clear o_3
    go_wp2_with fail
    refine (awake_any _).use fun w4 hb => ?_
    have hbb := hb
    have HB4 := Lib.hid (HB3.out.trans (hbb.mono HB3.out.size))
    clear hbb
    clear hb
    go_wp2
    go_ret
    exact ⟨rfl, HB4.out⟩
  | true =>
    obtain ⟨⟨hn1, hn5⟩, -, hpm0, -⟩ := okS_pm hok
    have HOk := Lib.hid hok
    have HPm := Lib.hid hpm0
    have HLn := Lib.hid (okS_pm hok).2.1
    have HVe := Lib.hid (okS_pm hok).2.2.2
    have HCf := Lib.hid (fun (w : World) (X : Option Addr) (k cX : Nat) (h : RowsK w X k (fun i => min (L i) 7) v) (hk : k = min n 7) => ChancesF (cA := cX) h hk hok)
    clear hok hpm0
    cases hof : ordB n m f with
    | false =>
      have HOf := Lib.hid hof
      clear hof
      go_wp2_with fail
      refine (ChooseFbad2 (cA := ca) (cG := co) a_2.out rfl HOk.out o_2.out rfl hco HOf.out).use fun w3 hb => ?_
      have hbb := hb
      have HB3 := Lib.hid (HB2.out.trans (hbb.mono HB2.out.size))
      have a_3 := Lib.hid (a_2.out.keep hbb)
      clear a_2
      have o_3 := Lib.hid (o_2.out.keep hbb)
      clear o_2
      clear hbb
      clear hb
      clear a_3
      clear o_3
      go_wp2_with fail
      refine (awake_any _).use fun w4 hb => ?_
      have hbb := hb
      have HB4 := Lib.hid (HB3.out.trans (hbb.mono HB3.out.size))
      clear hbb
      clear hb
      go_wp2
      go_ret
      exact ⟨rfl, HB4.out⟩
    | true =>
      obtain ⟨hmn, hpm, hfe⟩ := ordB_pm hof
      have HPo := Lib.hid hpm
      have HFe := Lib.hid hfe
      have HM7 : Hid (min m 7 = n) := Lib.hid (by omega)
      have HCv : Hid (∀ (w : World) (A : Option Addr), Ints w A (min m 7) f → Ints w A (min m 7) (fun p => (fO f p : Int))) := Lib.hid (fun w A h => h.congr (fun p hp => HFe.out p (by omega)))
      have HCo : Hid (∀ w, ArgI w C m d f → Ints w C n (fun p => (fO f p : Int))) := Lib.hid (fun w h => by
        have h2 := h.2.2.2
        rw [hmn] at h2
        exact h2.congr (fun p hp => HFe.out p hp))
      have HOe := Lib.hid (fun (w : World) (X : Option Addr) (k cX : Nat) (Y : Option Addr) (q cY : Nat) (h : RowsK w X k (fun i => min (L i) 7) v) (hk : k = min n 7) (hG : Ints w Y q (fun p => (fO f p : Int))) (hq : q = n) (hc : q ≤ cY) => ChooseF (cA := cX) (g := fO f) h hk HOk.out hG hq hc HPo.out)
      have hcp := chF_pm hn5 HPm.out hpm
      have HCp := Lib.hid hcp
      have HNb := Lib.hid (chosen_best hn5 HPm.out hpm)
      have HOr := Lib.hid (fun (w : World) (X : Option Addr) (k cX : Nat) (Y : Option Addr) (h : RowsK w X k (fun i => min (L i) 7) v) (hk : k = min n 7) (hG : Ints w Y n (fun p => (chF (tO v) n (fO f) p : Int))) => OrderC (cA := cX) (cG := n) h hk HOk.out hG (Nat.le_refl _) HPo.out)
      have HBn := Lib.hid (fun (w : World) (X : Option Addr) (k cX : Nat) (Y : Option Addr) (h : RowsK w X k (fun i => min (L i) 7) v) (hk : k = min n 7) (hG : Ints w Y n (fun p => (chF (tO v) n (fO f) p : Int))) => BetterN (cA := cX) (cG := n) (g := chF (tO v) n (fO f)) h hk HOk.out hG rfl (Nat.le_refl _) HCp.out HNb.out)
      have HCe : Hid (∀ i, 1 ≤ chN (tO v) n i (chF (tO v) n (fO f) i)) := Lib.hid (fun i => chN_pos hpm)
      have HFw := Lib.hid (first_wish hn5 hn1 HPm.out hpm)
      have hf0 := hpm.lt 0 (by omega)
      have HF0 := Lib.hid hf0
      have hmd : m = n := hmn
      have HMd := Lib.hid hmd
      generalize chF (tO v) n (fO f) = fx at *
      generalize chN (tO v) n = cn at *
      clear hof hpm hfe hmn hmd hcp hf0
      go_wp2_with fail
      refine (HOe.out _ _ _ ca _ _ co a_2.out rfl (HCv.out _ _ o_2.out) HM7.out hco).mono ?_
      rintro e w3 ⟨Bx, rfl, hBx, hRx, hb⟩
      have hbb := hb
      have HB3 := Lib.hid (HB2.out.trans (hbb.mono HB2.out.size))
      have a_3 := Lib.hid (a_2.out.keep hbb)
      clear a_2
      have o_3 := Lib.hid (o_2.out.keep hbb)
      clear o_2
      clear hbb
      clear hb
      clear a_3
      clear o_3
      have X_3 := Lib.hid (RowI.ints hRx)
      clear hRx
      go_wp2_with fail
      refine (few7_any A n c L v w3 (H.out.below HB3.out)).mono ?_
      rintro e w4 ⟨x, rfl, hx, hb⟩
      obtain ⟨Ab, cb, rfl, hr, hcc⟩ := hx.own.rowsKs
      clear hx hcc
      have hbb := hb
      have HB4 := Lib.hid (HB3.out.trans (hbb.mono HB3.out.size))
      have X_4 := Lib.hid (X_3.out.keep hbb)
      clear X_3
      clear hbb
      clear hb
      have b_4 := Lib.hid (hr)
      clear hr
      go_wp2_with fail
      refine (HBn.out _ _ _ cb _ b_4.out rfl X_4.out).use fun w5 hb => ?_
      have hbb := hb
      have HB5 := Lib.hid (HB4.out.trans (hbb.mono HB4.out.size))
      have X_5 := Lib.hid (X_4.out.keep hbb)
      clear X_4
      have b_5 := Lib.hid (b_4.out.keep hbb)
      clear b_4
      clear hbb
      clear hb
      clear b_5
      go_wp2_with fail
      refine (few7_any A n c L v w5 (H.out.below HB5.out)).mono ?_
      rintro e w6 ⟨x, rfl, hx, hb⟩
      obtain ⟨Ay, cy, rfl, hr, hcc⟩ := hx.own.rowsKs
      clear hx hcc
      have hbb := hb
      have HB6 := Lib.hid (HB5.out.trans (hbb.mono HB5.out.size))
      have X_6 := Lib.hid (X_5.out.keep hbb)
      clear X_5
      clear hbb
      clear hb
      have y_6 := Lib.hid (hr)
      clear hr
      go_wp2_with fail
      refine (HCf.out _ _ _ cy y_6.out rfl).mono ?_
      rintro e w7 ⟨Bt, rfl, hBt, hMt, hb⟩
      have hbb := hb
      have HB7 := Lib.hid (HB6.out.trans (hbb.mono HB6.out.size))
      have X_7 := Lib.hid (X_6.out.keep hbb)
      clear X_6
      have y_7 := Lib.hid (y_6.out.keep hbb)
      clear y_6
      clear hbb
      clear hb
      have T_7 := Lib.hid (hMt)
      clear hMt
      clear y_7
      go_wp2_with fail
      refine (few7_any A n c L v w7 (H.out.below HB7.out)).mono ?_
      rintro e w8 ⟨x, rfl, hx, hb⟩
      obtain ⟨Az, cz, rfl, hr, hcc⟩ := hx.own.rowsKs
      clear hx hcc
      have hbb := hb
      have HB8 := Lib.hid (HB7.out.trans (hbb.mono HB7.out.size))
      have X_8 := Lib.hid (X_7.out.keep hbb)
      clear X_7
      have T_8 := Lib.hid (T_7.out.keep hbb)
      clear T_7
      clear hbb
      clear hb
      have z_8 := Lib.hid (hr)
      clear hr
      go_wp2_with fail
      refine (HOr.out _ _ _ cz _ z_8.out rfl X_8.out).mono ?_
      rintro e w9 ⟨Al, cl, l, rfl, hIl, hle, hb⟩
      have hbb := hb
      have HB9 := Lib.hid (HB8.out.trans (hbb.mono HB8.out.size))
      have X_9 := Lib.hid (X_8.out.keep hbb)
      clear X_8
      have T_9 := Lib.hid (T_8.out.keep hbb)
      clear T_8
      have z_9 := Lib.hid (z_8.out.keep hbb)
      clear z_8
      clear hbb
      clear hb
      have Z_9 := Lib.hid (hIl)
      clear hIl
      clear z_9
      have HLe := Lib.hid hle
      clear hle
      have hbm := bne_f (a := (n : Int)) rfl
      have HCmp := Lib.hid (cmp8_any Al C n cl d _ _ w9 Z_9.out (HCo.out _ (HO.out.below HB9.out)) (by omega))
      have hcm : decide (0 < cmF (rowF l) (fun p => (fO f p : Int)) n) = false := decide_eq_false (by have := HLe.out; omega)
      generalize cmF (rowF l) (fun p => (fO f p : Int)) n = cm at *
      rw [HMd.out]
      go_wp2_with fail
      refine (HCmp.out).mono ?_
      rintro e w' ⟨rfl, rfl⟩
      clear HCmp
      go_wp2_with fail
      go_loopw [82] (fun i wr => ∃ j : Nat, j ≤ n ∧ i = .int .i64 j ∧ wr = w9) (fun i _ => n - (intOf i).toNat)
      case atStart => exact ⟨0, Nat.zero_le _, rfl, rfl⟩
      case round =>
        obtain ⟨j, hj, rfl, hwr⟩ := hrel
        subst hwr
        have hXc : ∀ p, p < n → wr.cell? ⟨Bx, p, none⟩ = some (.int .i64 (fx p : Int)) := fun p hp => by
          obtain ⟨bx, ox, hb, hc⟩ := X_9.out.at hp
          cases hb
          rw [Nat.zero_add] at hc
          exact hc
        have HXc := Lib.hid hXc
        clear hXc
        by_cases hlt : j < n
        · have hcx := HXc.out j hlt
          have hxl := HCp.out.lt j hlt
          have hT1 := World.rowIs.cell T_9.out.rows hlt
          have hT2 := (T_9.out.row j hlt).cell hxl
          have hce := HCe.out j
          have HXl := Lib.hid hxl
          generalize cn j (fx j) = cj at *
          generalize fx j = xj at *
          have hd1 : decide ((xj : Int) < 0) = false := decide_eq_false (by omega)
          have hd2 : decide ((n : Int) ≤ (xj : Int)) = false := decide_eq_false (by omega)
          have hd3 : decide ((cj : Int) < 1) = false := decide_eq_false (by omega)
          go_wp2
          go_roundw
          case rel => exact ⟨j + 1, by omega, by go_num, by first | trivial | rfl⟩
          case measure => simp [intOf]; omega
        · obtain rfl : j = n := by omega
          have h0j : 0 < j := by omega
          have hA0 := HCo.out _ (HO.out.below HB9.out)
          obtain ⟨bo, oo, rfl, hco2⟩ := hA0.at h0j
          obtain ⟨b, o, A', c', rfl, hc, hA'⟩ := (H.out.below HB9.out).at HF0.out
          obtain ⟨bw, ow, rfl, hcw⟩ := hA'.2.2.2.at (show 0 < L (fO f 0) by rw [HLn.out _ HF0.out]; exact h0j)
          rw [HVe.out _ 0 HF0.out h0j] at hcw
          have hX0 := HXc.out _ HF0.out
          rw [HFw.out] at hX0
          rw [Nat.add_zero] at hco2 hcw
          have hLf := HLn.out _ HF0.out
          rw [hLf] at hc
          have q0 : ∀ q : Later wr, q.to.cell? ⟨bo, oo, none⟩ = some (.int .i64 ((fO f 0 : Nat) : Int)) := fun q => q.cell hco2
          have q1 : ∀ q : Later wr, q.to.cell? ⟨Bx, fO f 0, none⟩ = some (.int .i64 ((tO v (fO f 0) 0 : Nat) : Int)) := fun q => q.cell hX0
          have q2 : ∀ q : Later wr, q.to.cell? ⟨b, o + fO f 0, none⟩ = some (.slice (some ⟨bw, ow, none⟩) j c') := fun q => q.cell hc
          have q3 : ∀ q : Later wr, q.to.cell? ⟨bw, ow, none⟩ = some (.int .i64 ((tO v (fO f 0) 0 : Nat) : Int)) := fun q => q.cell hcw
          have hp0 := HF0.out
          clear hco2 hc hcw hX0 hA' hA0 hLf
          generalize tO v (fO f 0) 0 = z0 at *
          generalize fO f 0 = p0 at *
          have hbe := beq_t (a := (z0 : Int)) (b := (z0 : Int)) rfl
          go_wp2_with fail
          refine wp_region_later (by kernel_rfl) (by kernel_rfl) ?_
          repeat
            (with_reducible refine wpQuiet_step ?_
             intro K hK
             go_simp
             first
               | (refine hK _ ?_; clear hK K)
               | (apply Exists.intro
                  refine ⟨fun _ => ?_, hK _ ?_⟩
                  (go_at_call 20; exact Lr.later (awake_any _))
                  clear hK K))
          with_reducible refine wpQuiet_nil ?_
          intro W2 hw'
          obtain ⟨p2, hw''⟩ := hw'
          have hp2 := p2.below
          rw [← hw''] at hp2
          clear hw'' p2
          have HBe := Lib.hid (HB9.out.trans (hp2.mono HB9.out.size))
          clear hp2 q0 q1 q2 q3
          go_wp2
          go_ret
          exact ⟨rfl, HBe.out⟩
end Go.Proofs.Ytocfbafcplhmiaa
