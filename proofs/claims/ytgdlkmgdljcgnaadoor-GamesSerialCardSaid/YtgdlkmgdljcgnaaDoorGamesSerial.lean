import Derived.Test.YtgdlkmgdljcgnaaDoorGth
import Derived.Test.YtgdlkmgdljcgnaaDoorGamesConcave
namespace Go.Proofs.YtgdlkmgdljcgnaaDoor
open Go.RowKit

theorem okL_min (n : Nat) (F : Nat → Int) : okL (min n 18) F = okL n F := by
  by_cases h : n ≤ 18
  · rw [Nat.min_eq_left h]
  · rw [Nat.min_eq_right (by omega)]
    unfold okL
    rw [decide_eq_false (show ¬ (1 ≤ 18 ∧ 18 ≤ 4) by omega), decide_eq_false (show ¬ (1 ≤ n ∧ n ≤ 4) by omega)]
    rfl
theorem inS_oa : ∀ a, a < 16 → ∀ b, b < 16 → ∀ p, p < 4 → inS (a ||| b) p = (inS a p || inS b p) ∧ inS (a &&& b) p = (inS a p && inS b p) := by decide +kernel
theorem inS_0 : ∀ p, p < 4 → inS 0 p = false := by decide
theorem mxS_zero (F : Nat → Int) : ∀ k, k ≤ 4 → mxS F 0 k = 0 := by
  intro k
  induction k with
  | zero => intro _; rfl
  | succ k ih =>
    intro hk
    unfold mxS
    rw [inS_0 k (by omega)]
    exact ih (by omega)
/-- A road's costs are concave. -/
theorem mxS_sub (F : Nat → Int) (a b : Nat) (ha : a < 16) (hb : b < 16) : ∀ k, k ≤ 4 → (mxS F (a ||| b) k = mxS F a k ∨ mxS F (a ||| b) k = mxS F b k) ∧ mxS F a k ≤ mxS F (a ||| b) k ∧ mxS F b k ≤ mxS F (a ||| b) k ∧ mxS F (a &&& b) k ≤ mxS F a k ∧ mxS F (a &&& b) k ≤ mxS F b k := by
  intro k
  induction k with
  | zero => intro _; simp [mxS]
  | succ k ih =>
    intro hk
    obtain ⟨h1, h2, h3, h4, h5⟩ := ih (by omega)
    obtain ⟨e1, e2⟩ := inS_oa a ha b hb k (by omega)
    simp only [mxS, e1, e2]
    generalize mxS F (a ||| b) k = x at *
    generalize mxS F (a &&& b) k = y at *
    generalize mxS F a k = u at *
    generalize mxS F b k = v at *
    generalize F k = f at *
    cases inS a k <;> cases inS b k <;> simp <;> (repeat' split) <;> omega
theorem pow_okL {n : Nat} (h1 : 1 ≤ n) (h4 : n ≤ 4) : (2 ^ n = 2 ∨ 2 ^ n = 4 ∨ 2 ^ n = 8 ∨ 2 ^ n = 16) ∧ tzN (2 ^ n) = n ∧ 2 ^ n ≤ 16 := by
  have : n = 1 ∨ n = 2 ∨ n = 3 ∨ n = 4 := by omega
  rcases this with rfl | rfl | rfl | rfl <;> decide
theorem road_okC {n : Nat} {F : Nat → Int} (h : okL n F = true) : okC (2 ^ n) (fun s => mxS F s n) = true := by
  obtain ⟨⟨h1, h4⟩, hF⟩ := okL_iff.1 h
  exact okC_iff.2 ⟨(pow_okL h1 h4).1, mxS_zero F n h4, fun k _ => mxS_bd hF k n (Nat.le_refl _)⟩
theorem road_cv {n : Nat} {F : Nat → Int} (h : okL n F = true) : cvT (2 ^ n) (fun s => mxS F s n) = (0, 0, 4) := by
  obtain ⟨⟨h1, h4⟩, hF⟩ := okL_iff.1 h
  have h16 := (pow_okL h1 h4).2.2
  refine cvT_none (fun a ha => anyB_f (fun b hb => ?_))
  have := mxS_sub F a b (by omega) (by omega) n h4
  unfold cvB
  refine decide_eq_false ?_
  show ¬ mxS F a n + mxS F b n < mxS F (a ||| b) n + mxS F (a &&& b) n
  omega

set_option maxHeartbeats 1600000 in
set_option maxRecDepth 1000000 in
theorem gamesSerial_walk (A : Option Addr) (n c : Nat) (C : Nat → Int) (W : World) (h : ArgI W A n c C) (ht : Tab W) : TrueBelow 7 #[.slice A n c] W := by
  have H := Lib.hid h
  have HT := Lib.hid ht
  have HB := Lib.hid (Below.refl W.heap.size W)
  have HMin := Lib.hid (okL_min n C)
  clear h ht
  show Calls _ _ _ _ _
  go_enter Tryd.func7, Tryd.ntmps7
  cases hok : okL n C with
  | false =>
    have HO1 := Lib.hid (show okL (min n 18) C = false by rw [HMin.out]; exact hok)
    clear hok
    go_wp2_with fail
    refine (list_any A n c C _ (H.out.below HB.out)).mono ?_
    rintro e wc ⟨v, rfl, hv, hb⟩
    obtain ⟨A1, c1, rfl, hI⟩ := hv.ints
    clear hv
    have HT := Lib.hid (HT.out.keep hb)
    have HB := Lib.hid (HB.out.trans (hb.mono HB.out.size))
    clear hb
    have HI := Lib.hid hI.2.2.2
    have HIa := Lib.hid hI
    clear hI
    go_wp2_with fail
    refine (road_bad A1 (min n 18) c1 C _ HI.out (by unfold maxLen; omega) HO1.out).mono ?_
    rintro e w' ⟨rfl, rfl⟩
    go_wp2_with fail
    refine (list_any A n c C _ (H.out.below HB.out)).mono ?_
    rintro e wc ⟨v, rfl, hv, hb⟩
    obtain ⟨A2, c2, rfl, hI⟩ := hv.ints
    clear hv
    have HI := Lib.hid (HI.out.keep hb)
    have HT := Lib.hid (HT.out.keep hb)
    have HB := Lib.hid (HB.out.trans (hb.mono HB.out.size))
    clear hb
    have HI2 := Lib.hid hI.2.2.2
    have HI2a := Lib.hid hI
    clear hI
    go_wp2_with fail
    refine (serial_bad A2 (min n 18) c2 C _ HI2.out (by unfold maxLen; omega) HO1.out).mono ?_
    rintro e w' ⟨rfl, rfl⟩
    go_wp2_with fail
    refine (awake_any _ HT.out).use fun wc hb => ?_
    have HI := Lib.hid (HI.out.keep hb)
    have HI2 := Lib.hid (HI2.out.keep hb)
    have HT := Lib.hid (HT.out.keep hb)
    have HB := Lib.hid (HB.out.trans (hb.mono HB.out.size))
    clear hb
    go_wp2
    go_ret
    exact ⟨rfl, HB.out⟩
  | true =>
    have HOk := Lib.hid hok
    obtain ⟨⟨hn1, hn4⟩, hF⟩ := okL_iff.1 hok
    have HF0 := Lib.hid hF
    have Hmn := Lib.hid (show min n 18 = n by omega)
    have HRo := Lib.hid (road_okC hok)
    have HCv : Hid (cvV (cvT (2 ^ n) (fun s => mxS C s n)) = .tuple #[.int .i64 0, .int .i64 0, .int .i64 4]) := Lib.hid (by rw [road_cv hok]; rfl)
    have HTz := Lib.hid (pow_okL hn1 hn4).2.1
    have HSh := Lib.hid (fun (G : Nat → Int) hs hP => serial_sh (F := C) (G := G) hn4 hF hs hP)
    have hm16 := (pow_okL hn1 hn4).2.2
    clear hok hF
    go_wp2_with fail
    refine (list_any A n c C _ (H.out.below HB.out)).mono ?_
    rintro e wc ⟨v, rfl, hv, hb⟩
    obtain ⟨A1, c1, rfl, hI⟩ := hv.ints
    rw [Hmn.out] at hI ⊢
    clear hv
    have HT := Lib.hid (HT.out.keep hb)
    have HB := Lib.hid (HB.out.trans (hb.mono HB.out.size))
    clear hb
    have HI := Lib.hid hI.2.2.2
    have HIa := Lib.hid hI
    clear hI
    go_wp2_with fail
    refine (road_ok A1 n c1 C _ HI.out HOk.out).mono ?_
    rintro e wc ⟨rfl, hR, hb⟩
    have HR := Lib.hid hR
    clear hR
    have HI := Lib.hid (HI.out.keep hb)
    have HT := Lib.hid (HT.out.keep hb)
    have HB := Lib.hid (HB.out.trans (hb.mono HB.out.size))
    clear hb
    go_wp2_with fail
    refine (list_any A n c C _ (H.out.below HB.out)).mono ?_
    rintro e wc ⟨v, rfl, hv, hb⟩
    obtain ⟨A2, c2, rfl, hI⟩ := hv.ints
    rw [Hmn.out] at hI ⊢
    clear hv
    have HI := Lib.hid (HI.out.keep hb)
    have HR := Lib.hid (HR.out.keep hb)
    have HT := Lib.hid (HT.out.keep hb)
    have HB := Lib.hid (HB.out.trans (hb.mono HB.out.size))
    clear hb
    have HI2 := Lib.hid hI.2.2.2
    have HI2a := Lib.hid hI
    clear hI
    go_wp2_with fail
    refine (serial_ok A2 n c2 C _ HI2.out HOk.out).mono ?_
    rintro e wc ⟨gx, G, hP, hS, rfl, -, hX, hb⟩
    have HX := Lib.hid (hX.congr (fun k hk i hi => (HSh.out G hS hP k hk i hi).symm))
    clear hX hP hS
    have HI := Lib.hid (HI.out.keep hb)
    have HR := Lib.hid (HR.out.keep hb)
    have HI2 := Lib.hid (HI2.out.keep hb)
    have HT := Lib.hid (HT.out.keep hb)
    have HB := Lib.hid (HB.out.trans (hb.mono HB.out.size))
    clear hb
    go_wp2_with fail
    refine (concave_ok _ (2 ^ n) (2 ^ n) (fun s => mxS C s n) _ HR.out.ints HT.out HRo.out).mono ?_
    rintro e w9 ⟨rfl, hd⟩
    have hb := hd.below wc.heap.size
    clear hd
    have HI := Lib.hid (HI.out.keep hb)
    have HR := Lib.hid (HR.out.keep hb)
    have HI2 := Lib.hid (HI2.out.keep hb)
    have HX := Lib.hid (HX.out.keep hb)
    have HT := Lib.hid (HT.out.keep hb)
    have HB := Lib.hid (HB.out.trans (hb.mono HB.out.size))
    clear hb
    rw [HCv.out]
    go_wp2_with fail
    refine (shapley_ok _ (2 ^ n) (2 ^ n) n (fun s => mxS C s n) _ HR.out.ints HT.out HRo.out HTz.out).mono ?_
    rintro e wc ⟨rfl, hY, hb⟩
    have HY := Lib.hid hY
    clear hY
    have HI := Lib.hid (HI.out.keep hb)
    have HR := Lib.hid (HR.out.keep hb)
    have HI2 := Lib.hid (HI2.out.keep hb)
    have HX := Lib.hid (HX.out.keep hb)
    have HT := Lib.hid (HT.out.keep hb)
    have HB := Lib.hid (HB.out.trans (hb.mono HB.out.size))
    clear hb
    go_wp2_with fail
    refine (equalF_any _ _ n n n n (shF n (2 ^ n) (fun s => mxS C s n)) (shF n (2 ^ n) (fun s => mxS C s n)) _ HX.out.recs HY.out.recs (by omega) (by omega)).use fun wc hb => ?_
    have HI := Lib.hid (HI.out.keep hb)
    have HR := Lib.hid (HR.out.keep hb)
    have HI2 := Lib.hid (HI2.out.keep hb)
    have HX := Lib.hid (HX.out.keep hb)
    have HY := Lib.hid (HY.out.keep hb)
    have HT := Lib.hid (HT.out.keep hb)
    have HB := Lib.hid (HB.out.trans (hb.mono HB.out.size))
    clear hb
    rw [eqFB_self]
    go_wp2_with fail
    refine (awake_any _ HT.out).use fun wc hb => ?_
    have HI := Lib.hid (HI.out.keep hb)
    have HR := Lib.hid (HR.out.keep hb)
    have HI2 := Lib.hid (HI2.out.keep hb)
    have HX := Lib.hid (HX.out.keep hb)
    have HY := Lib.hid (HY.out.keep hb)
    have HT := Lib.hid (HT.out.keep hb)
    have HB := Lib.hid (HB.out.trans (hb.mono HB.out.size))
    clear hb
    go_wp2
    go_ret
    exact ⟨rfl, HB.out⟩
end Go.Proofs.YtgdlkmgdljcgnaaDoor
