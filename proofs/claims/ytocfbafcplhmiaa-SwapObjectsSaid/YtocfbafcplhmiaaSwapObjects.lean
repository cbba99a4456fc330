/- SwapObjects, walked. -/
import Derived.Test.YtocfbafcplhmiaaUzv
import Derived.Test.YtocfbafcplhmiaaUt
import Derived.Test.YtocfbafcplhmiaaUzd
import Derived.Test.YtocfbafcplhmiaaUl
namespace Go.Proofs.Ytocfbafcplhmiaa
open Go.RowKit

theorem obV_form (t : Nat → Nat → Nat) (n : Nat) (h : Nat → Nat) : ∃ a e : Int, obV t n h = .tuple #[.int .i64 a, .int .i64 e] := by
  unfold obV
  split
  · exact ⟨0, 4, rfl⟩
  · exact ⟨_, 0, rfl⟩
set_option maxHeartbeats 8000000 in
set_option maxRecDepth 1000000 in
theorem swapObjects_walk (A : Option Addr) (n c : Nat) (L : Nat → Nat) (v : Nat → Nat → Int) (C : Option Addr) (m d : Nat) (f : Nat → Int) (w : World) (h : ArgR w A n c L v) (ho : ArgI w C m d f) :
    Calls Try.prog 17 #[.slice A n c, .slice C m d] w fun e w' => e = .returned (.bool true) ∧ Below w.heap.size w w' := by
  have H := Lib.hid h
  clear h
  have HO := Lib.hid ho
  clear ho
  go_enter Try.func17, Try.ntmps17
  have HB0 := Lib.hid (Below.refl w.heap.size w)
  go_wp2_with fail
  refine (few7_any A n c L v w (H.out.below HB0.out)).mono ?_
  rintro e w1 ⟨x, rfl, hx, hb⟩
  obtain ⟨Aa, ca, rfl, hr, hcc⟩ := hx.own.rowsKs
  clear hx hcc
  have hbb := hb
  have HB1 := Lib.hid (HB0.out.trans (hbb.mono HB0.out.size))
  clear hbb
  clear hb
  have a_1 := Lib.hid (hr)
  clear hr
  go_wp2_with fail
  refine (list7_any C m d f w1 (HO.out.below HB1.out)).mono ?_
  rintro e w2 ⟨x, rfl, hx, hb⟩
  obtain ⟨Ao, co, rfl, hr, hco⟩ := hx.sl1
  clear hx
  have hbb := hb
  have HB2 := Lib.hid (HB1.out.trans (hbb.mono HB1.out.size))
  have a_2 := Lib.hid (a_1.out.keep hbb)
  clear a_1
  clear hbb
  clear hb
  have o_2 := Lib.hid (hr)
  clear hr
  cases hok : okS n L v with
  | false =>
    have HOk := Lib.hid hok
    have HFi := Lib.hid (fun w (h : ArgR w A n c L v) (ho : ArgI w C m d f) => fine_any A n c L v C m d f w h ho)
    rw [hok, Bool.false_and] at HFi
    clear hok
    go_wp2_with fail
    refine (ObjectsFbad (cA := ca) (cG := co) a_2.out rfl HOk.out).use fun w3 hb => ?_
    have hbb := hb
    have HB3 := Lib.hid (HB2.out.trans (hbb.mono HB2.out.size))
    have a_3 := Lib.hid (a_2.out.keep hbb)
    clear a_2
    have o_3 := Lib.hid (o_2.out.keep hbb)
    clear o_2
    clear hbb
    clear hb
    clear a_3
    clear o_3
    go_wp2_with fail
    refine (HFi.out w3 (H.out.below HB3.out) (HO.out.below HB3.out)).use fun w4 hb => ?_
    have hbb := hb.below w3.heap.size
    have HB4 := Lib.hid (HB3.out.trans (hbb.mono HB3.out.size))
    clear hbb
    clear hb
    go_wp2_with fail
    refine (awake_any _).use fun w5 hb => ?_
    have hbb := hb
    have HB5 := Lib.hid (HB4.out.trans (hbb.mono HB4.out.size))
    clear hbb
    clear hb
    go_wp2
    go_ret
    exact ⟨rfl, HB5.out⟩
  | true =>
    obtain ⟨⟨hn1, hn5⟩, -, hpm0, -⟩ := okS_pm hok
    have HOk := Lib.hid hok
    have HPm := Lib.hid hpm0
    have HWi := Lib.hid (fun w (h : ArgR w A n c L v) => h.wis hok)
    have HFi := Lib.hid (fun w (h : ArgR w A n c L v) (ho : ArgI w C m d f) => fine_any A n c L v C m d f w h ho)
    rw [hok, Bool.true_and] at HFi
    clear hok hpm0
    cases hof : ordB n m f with
    | false =>
      have HOf := Lib.hid hof
      rw [hof] at HFi
      clear hof
      go_wp2_with fail
      refine (ObjectsFbad2 (cA := ca) (cG := co) a_2.out rfl HOk.out o_2.out rfl hco HOf.out).use fun w3 hb => ?_
      have hbb := hb
      have HB3 := Lib.hid (HB2.out.trans (hbb.mono HB2.out.size))
      have a_3 := Lib.hid (a_2.out.keep hbb)
      clear a_2
      have o_3 := Lib.hid (o_2.out.keep hbb)
      clear o_2
      clear hbb
      clear hb
      clear a_3
      clear o_3
      go_wp2_with fail
      refine (HFi.out w3 (H.out.below HB3.out) (HO.out.below HB3.out)).use fun w4 hb => ?_
      have hbb := hb.below w3.heap.size
      have HB4 := Lib.hid (HB3.out.trans (hbb.mono HB3.out.size))
      clear hbb
      clear hb
      go_wp2_with fail
      refine (awake_any _).use fun w5 hb => ?_
      have hbb := hb
      have HB5 := Lib.hid (HB4.out.trans (hbb.mono HB4.out.size))
      clear hbb
      clear hb
      go_wp2
      go_ret
      exact ⟨rfl, HB5.out⟩
    | true =>
      rw [hof] at HFi
      obtain ⟨hmn, hpm, hfe⟩ := ordB_pm hof
      have HPo := Lib.hid hpm
      have HFe := Lib.hid hfe
      have HM7 : Hid (min m 7 = n) := Lib.hid (by omega)
      have HCv : Hid (∀ (w : World) (A : Option Addr), Ints w A (min m 7) f → Ints w A (min m 7) (fun p => (fO f p : Int))) := Lib.hid (fun w A h => h.congr (fun p hp => HFe.out p (by omega)))
      have HCo : Hid (∀ w, ArgI w C m d f → Ints w C n (fun p => (fO f p : Int))) := Lib.hid (fun w h => by
        have h2 := h.2.2.2
        rw [hmn] at h2
        exact h2.congr (fun p hp => HFe.out p hp))
      have HRO := Lib.hid (fun w (hw : Wis w A n (tO v)) (ho : Ints w C n (fun p => (fO f p : Int))) => refObjects_any A n c (tO v) C d (fO f) w hw ho hn5 HPm.out HPo.out.lt)
      have HOe := Lib.hid (fun (w : World) (X : Option Addr) (k cX : Nat) (Y : Option Addr) (q cY : Nat) (h : RowsK w X k (fun i => min (L i) 7) v) (hk : k = min n 7) (hG : Ints w Y q (fun p => (fO f p : Int))) (hq : q = n) (hc : q ≤ cY) => ObjectsF (cA := cX) (g := fO f) h hk HOk.out hG hq hc HPo.out)
      have hmd : m = n := hmn
      have HMd := Lib.hid hmd
      obtain ⟨a0, e0, hv⟩ := obV_form (tO v) n (fO f)
      rw [hv] at HRO HOe
      have hq1 := beq_t (a := a0) rfl
      have hq2 := beq_t (a := e0) rfl
      clear hof hpm hfe hmn hmd hv
      go_wp2_with fail
      refine (HOe.out _ _ _ ca _ _ co a_2.out rfl (HCv.out _ _ o_2.out) HM7.out hco).use fun w3 hb => ?_
      have hbb := hb
      have HB3 := Lib.hid (HB2.out.trans (hbb.mono HB2.out.size))
      have a_3 := Lib.hid (a_2.out.keep hbb)
      clear a_2
      have o_3 := Lib.hid (o_2.out.keep hbb)
      clear o_2
      clear hbb
      clear hb
      clear a_3
      clear o_3
      go_wp2_with fail
      refine (HFi.out w3 (H.out.below HB3.out) (HO.out.below HB3.out)).use fun w4 hb => ?_
      have hbb := hb.below w3.heap.size
      have HB4 := Lib.hid (HB3.out.trans (hbb.mono HB3.out.size))
      clear hbb
      clear hb
      rw [HMd.out]
      go_wp2_with fail
      refine (HRO.out w4 (HWi.out _ (H.out.below HB4.out)) (HCo.out _ (HO.out.below HB4.out))).use fun w5 hb => ?_
      have hbb := hb
      have HB5 := Lib.hid (HB4.out.trans (hbb.mono HB4.out.size))
      clear hbb
      clear hb
      go_wp2_with fail
      refine (awake_any _).use fun w6 hb => ?_
      have hbb := hb
      have HB6 := Lib.hid (HB5.out.trans (hbb.mono HB5.out.size))
      clear hbb
      clear hb
      go_wp2
      go_ret
      exact ⟨rfl, HB6.out⟩
end Go.Proofs.Ytocfbafcplhmiaa
