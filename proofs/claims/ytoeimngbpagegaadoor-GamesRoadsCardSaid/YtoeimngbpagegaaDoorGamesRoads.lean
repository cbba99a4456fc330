import Derived.Test.YtoeimngbpagegaaDoorGrs
import Derived.Test.YtoeimngbpagegaaDoorGre
import Derived.Test.YtoeimngbpagegaaDoorEq
namespace Go.Proofs.YtoeimngbpagegaaDoor
open Go.RowKit

theorem okL_min' (n : Nat) (F : Nat → Int) : okL (min n 18) F = okL n F := by
  by_cases h : n ≤ 18
  · rw [Nat.min_eq_left h]
  · rw [Nat.min_eq_right (by omega)]
    unfold okL
    rw [decide_eq_false (show ¬ (1 ≤ 18 ∧ 18 ≤ 4) by omega), decide_eq_false (show ¬ (1 ≤ n ∧ n ≤ 4) by omega)]
    rfl
theorem eqB_lk (n : Nat) (f : Nat → Int) : eqB n n f f = true := by
  unfold eqB
  rw [allB_t (fun g _ => by simp [eqP])]
  simp
theorem pow_okL' {n : Nat} (h1 : 1 ≤ n) (h4 : n ≤ 4) : 2 ^ n ≤ 16 := by
  have : n = 1 ∨ n = 2 ∨ n = 3 ∨ n = 4 := by omega
  rcases this with rfl | rfl | rfl | rfl <;> decide
theorem seF_tw {F G : Nat → Int} {n : Nat} {a b : Int} (hn : n ≤ 4) (hF : ∀ k, k < n → 0 ≤ F k ∧ F k ≤ 1000) (hs : Srt (fun x => x) G n) (hP : (lst n G).Perm (lst n F)) (p : Nat) (hp : p < n) (h : Twf a b (svN F n p 1000)) :
    seF F G n p 0 = a ∧ seF F G n p 1 = b := by
  have hb := fun s => mxS_bd hF s n (Nat.le_refl _)
  have h1 := ro_sh hn hp (fun s => (hb s).1) 1000
  have e1 : roN F n 1000 = fun s => mxS F s n := by
    funext s
    unfold roN
    have := hb s
    rw [if_neg (by omega)]
  rw [e1] at h1
  have hf := facN_pos n hn
  have hh := r_ext (a := shP n (fun s => mxS F s n) p (2 ^ n)) (b := (facN n : Nat)) (c := svN F n p 1000) (d := 12) (by omega) (by decide) h1
  obtain ⟨o1, o2⟩ := h.out
  rw [← serial_sh hn hF hs hP p hp 0 (by omega), ← serial_sh hn hF hs hP p hp 1 (by omega), o1, o2]
  exact ⟨hh.1, hh.2⟩

set_option maxHeartbeats 1600000 in
set_option maxRecDepth 1000000 in
theorem gamesRoads_walk (A : Option Addr) (n c : Nat) (C : Nat → Int) (W : World) (h : ArgI W A n c C) (ht : Tab W) : TrueBelow 7 #[.slice A n c] W := by
  have hnm : n ≤ maxLen := Nat.le_trans h.1 h.2.1
  have H := Lib.hid h
  have Hn := Lib.hid hnm
  have HT := Lib.hid ht
  have HB := Lib.hid (Below.refl W.heap.size W)
  have HMin := Lib.hid (okL_min' n C)
  clear h ht hnm
  show Calls _ _ _ _ _
  go_enter Tryd.func7, Tryd.ntmps7
  cases hok : okL n C with
  | false =>
    have HOk := Lib.hid hok
    have HO1 := Lib.hid (show okL (min n 18) C = false by rw [HMin.out]; exact hok)
    clear hok
    go_wp2_with fail
    refine (list_any A n c C _ (H.out.below HB.out)).mono ?_
    rintro e wc ⟨v, rfl, hv, hb⟩
    obtain ⟨A1, c1, rfl, hI⟩ := hv.ints
    clear hv
    have HT := Lib.hid (HT.out.keep hb)
    have HB := Lib.hid (HB.out.trans (hb.mono HB.out.size))
    clear hb
    have HI1 := Lib.hid hI.2.2.2
    have HI1a := Lib.hid hI
    clear hI
    go_wp2_with fail
    refine (road_bad A1 (min n 18) c1 C _ HI1.out (by unfold maxLen; omega) HO1.out).mono ?_
    rintro e w' ⟨rfl, rfl⟩
    go_wp2_with fail
    refine (list_any A n c C _ (H.out.below HB.out)).mono ?_
    rintro e wc ⟨v, rfl, hv, hb⟩
    obtain ⟨A2, c2, rfl, hI⟩ := hv.ints
    clear hv
    have HI1 := Lib.hid (HI1.out.keep hb)
    have HT := Lib.hid (HT.out.keep hb)
    have HB := Lib.hid (HB.out.trans (hb.mono HB.out.size))
    clear hb
    have HI2 := Lib.hid hI.2.2.2
    have HI2a := Lib.hid hI
    clear hI
    go_wp2_with fail
    refine (serial_bad A2 (min n 18) c2 C _ HI2.out (by unfold maxLen; omega) HO1.out).mono ?_
    rintro e w' ⟨rfl, rfl⟩
    go_wp2_with fail
    refine (refLengths_any A n c C _ (H.out.below HB.out).2.2.2 Hn.out).mono ?_
    rintro e w' ⟨rfl, rfl⟩
    rw [HOk.out]
    go_wp2_with fail
    refine (awake_any _ HT.out).use fun wc hb => ?_
    have HI1 := Lib.hid (HI1.out.keep hb)
    have HI2 := Lib.hid (HI2.out.keep hb)
    have HT := Lib.hid (HT.out.keep hb)
    have HB := Lib.hid (HB.out.trans (hb.mono HB.out.size))
    clear hb
    go_wp2
    go_ret
    exact ⟨rfl, HB.out⟩
  | true =>
    have HOk := Lib.hid hok
    obtain ⟨⟨hn1, hn4⟩, hF⟩ := okL_iff.1 hok
    have HF0 := Lib.hid hF
    have Hmn := Lib.hid (show min n 18 = n by omega)
    have HSe := Lib.hid (fun (G : Nat → Int) hs hP p hp a b => seF_tw (F := C) (G := G) (a := a) (b := b) hn4 hF hs hP p hp)
    have hm16 := pow_okL' hn1 hn4
    clear hok hF
    go_wp2_with fail
    refine (list_any A n c C _ (H.out.below HB.out)).mono ?_
    rintro e wc ⟨v, rfl, hv, hb⟩
    obtain ⟨A1, c1, rfl, hI⟩ := hv.ints
    rw [Hmn.out] at hI ⊢
    clear hv
    have HT := Lib.hid (HT.out.keep hb)
    have HB := Lib.hid (HB.out.trans (hb.mono HB.out.size))
    clear hb
    have HI1 := Lib.hid hI.2.2.2
    have HI1a := Lib.hid hI
    clear hI
    go_wp2_with fail
    refine (road_ok A1 n c1 C _ HI1.out HOk.out).mono ?_
    rintro e wc ⟨rfl, hR, hb⟩
    have HR := Lib.hid hR
    clear hR
    have HI1 := Lib.hid (HI1.out.keep hb)
    have HT := Lib.hid (HT.out.keep hb)
    have HB := Lib.hid (HB.out.trans (hb.mono HB.out.size))
    clear hb
    go_wp2_with fail
    refine (list_any A n c C _ (H.out.below HB.out)).mono ?_
    rintro e wc ⟨v, rfl, hv, hb⟩
    obtain ⟨A2, c2, rfl, hI⟩ := hv.ints
    rw [Hmn.out] at hI ⊢
    clear hv
    have HI1 := Lib.hid (HI1.out.keep hb)
    have HR := Lib.hid (HR.out.keep hb)
    have HT := Lib.hid (HT.out.keep hb)
    have HB := Lib.hid (HB.out.trans (hb.mono HB.out.size))
    clear hb
    have HI2 := Lib.hid hI.2.2.2
    have HI2a := Lib.hid hI
    clear hI
    go_wp2_with fail
    refine (serial_ok A2 n c2 C _ HI2.out HOk.out).mono ?_
    rintro e wc ⟨gx, G, hP, hS, rfl, -, hX, hb⟩
    have HSe := Lib.hid (HSe.out G hS hP)
    have HX := Lib.hid hX
    clear hX hP hS
    have HI1 := Lib.hid (HI1.out.keep hb)
    have HR := Lib.hid (HR.out.keep hb)
    have HI2 := Lib.hid (HI2.out.keep hb)
    have HT := Lib.hid (HT.out.keep hb)
    have HB := Lib.hid (HB.out.trans (hb.mono HB.out.size))
    clear hb
    go_wp2_with fail
    refine (refLengths_any A n c C _ (H.out.below HB.out).2.2.2 Hn.out).mono ?_
    rintro e w' ⟨rfl, rfl⟩
    rw [HOk.out]
    go_wp2_with fail
    refine (refRoad_any A n c C _ (H.out.below HB.out).2.2.2 HOk.out).mono ?_
    rintro e wc ⟨v, rfl, hv, hb⟩
    obtain ⟨A3, c3, rfl, hI⟩ := hv.ints
    clear hv
    have HI1 := Lib.hid (HI1.out.keep hb)
    have HR := Lib.hid (HR.out.keep hb)
    have HI2 := Lib.hid (HI2.out.keep hb)
    have HX := Lib.hid (HX.out.keep hb)
    have HT := Lib.hid (HT.out.keep hb)
    have HB := Lib.hid (HB.out.trans (hb.mono HB.out.size))
    clear hb
    have HI3 := Lib.hid hI.2.2.2
    clear hI
    go_wp2_with fail
    refine (Ro.lr (equal_any _ _ (2 ^ n) (2 ^ n) (2 ^ n) c3 (fun s => mxS C s n) (fun s => mxS C s n) _ HR.out.ints HI3.out (by omega) (by omega))).use fun wc hb => ?_
    have HI1 := Lib.hid (HI1.out.keep hb)
    have HR := Lib.hid (HR.out.keep hb)
    have HI2 := Lib.hid (HI2.out.keep hb)
    have HX := Lib.hid (HX.out.keep hb)
    have HI3 := Lib.hid (HI3.out.keep hb)
    have HT := Lib.hid (HT.out.keep hb)
    have HB := Lib.hid (HB.out.trans (hb.mono HB.out.size))
    clear hb
    rw [eqB_lk]
    go_wp2_with fail
    refine (refSerial_any A n c C _ (H.out.below HB.out).2.2.2 HOk.out).mono ?_
    rintro e wc ⟨Y, rfl, hY, hT, hb⟩
    have HY := Lib.hid (hY.congr (G := seF C G n) (fun k hk i hi => by
      obtain ⟨q0, q1⟩ := HSe.out k hk _ _ (hT k hk)
      have : i = 0 ∨ i = 1 := by omega
      rcases this with rfl | rfl
      · exact q0.symm
      · exact q1.symm))
    clear hY hT
    have HI1 := Lib.hid (HI1.out.keep hb)
    have HR := Lib.hid (HR.out.keep hb)
    have HI2 := Lib.hid (HI2.out.keep hb)
    have HX := Lib.hid (HX.out.keep hb)
    have HI3 := Lib.hid (HI3.out.keep hb)
    have HT := Lib.hid (HT.out.keep hb)
    have HB := Lib.hid (HB.out.trans (hb.mono HB.out.size))
    clear hb
    go_wp2_with fail
    refine (equalF_any _ _ n n n n (seF C G n) (seF C G n) _ HX.out.recs HY.out.recs (by omega) (by omega)).use fun wc hb => ?_
    have HI1 := Lib.hid (HI1.out.keep hb)
    have HR := Lib.hid (HR.out.keep hb)
    have HI2 := Lib.hid (HI2.out.keep hb)
    have HX := Lib.hid (HX.out.keep hb)
    have HY := Lib.hid (HY.out.keep hb)
    have HT := Lib.hid (HT.out.keep hb)
    have HB := Lib.hid (HB.out.trans (hb.mono HB.out.size))
    clear hb
    rw [eqFB_self]
    go_wp2_with fail
    refine (awake_any _ HT.out).use fun wc hb => ?_
    have HI1 := Lib.hid (HI1.out.keep hb)
    have HR := Lib.hid (HR.out.keep hb)
    have HI2 := Lib.hid (HI2.out.keep hb)
    have HX := Lib.hid (HX.out.keep hb)
    have HY := Lib.hid (HY.out.keep hb)
    have HT := Lib.hid (HT.out.keep hb)
    have HB := Lib.hid (HB.out.trans (hb.mono HB.out.size))
    clear hb
    go_wp2
    go_ret
    exact ⟨rfl, HB.out⟩
end Go.Proofs.YtoeimngbpagegaaDoor
