import Derived.Test.YthbahfmcmbjglaaQr
import Derived.Test.YthbahfmcmbjglaaQo
namespace Go.Proofs.Ythbahfmcmbjglaa
open Go.RowKit

def OvP (n : Nat) (J : Nat → Nat → Int) (x y f : Int) : Prop := (x = 0 ∧ y = 0 ∧ f = 4 ∧ NoOv n J 101 200) ∨ ∃ a b : Nat, x = a ∧ y = b ∧ f = 0 ∧ IsOv n J 200 a b
def OvQ (n : Nat) (J : Nat → Nat → Int) (x y f : Int) : Prop := (x = 0 ∧ y = 0 ∧ f = 4 ∧ ((∀ k, k < n → eS (plS 0 n J) k ≤ J k 2) ∨ NoOv n J 401 400)) ∨ ∃ a b : Nat, x = a ∧ y = b ∧ f = 0 ∧ IsOv n J 400 a b
theorem ov_agree {n : Nat} {J : Nat → Nat → Int} (h : okJ n J = true) {x y f x' y' f' : Int} (h1 : OvP n J x y f) (h2 : OvQ n J x' y' f') : x = x' ∧ y = y' ∧ f = f' := by
  rcases h1 with ⟨rfl, rfl, rfl, hn⟩ | ⟨a, b, rfl, rfl, rfl, hi⟩
  · rcases h2 with ⟨rfl, rfl, rfl, -⟩ | ⟨a', b', rfl, rfl, rfl, hi'⟩
    · exact ⟨rfl, rfl, rfl⟩
    · exact absurd hi'.2.2.1 (noOv_all h hn hi'.1)
  · rcases h2 with ⟨rfl, rfl, rfl, hc⟩ | ⟨a', b', rfl, rfl, rfl, hi'⟩
    · exfalso
      rcases hc with hc | hc
      · have h3 := no_over h hc (a : Int) (b : Int) (by have := hi.1; omega)
        have h4 : (b : Int) - a < ldF J a b n := hi.2.2.1
        omega
      · have h5 := ov_small h hi.1 hi.2.2.1
        exact hc a (by omega) b hi.1 (by have := hi.2.1; omega) hi.2.2.1
    · obtain ⟨rfl, rfl⟩ := isOv_same h hi hi'
      exact ⟨rfl, rfl, rfl⟩
theorem overload_okP (A : Option Addr) (n c : Nat) (J : Nat → Nat → Int) (w : World) (h : Recs 4 w A n J) (hok : okJ n J = true) :
    Calls Try.prog 22 #[.slice A n c] w fun e w' => ∃ x y f, e = .returned (.tuple #[.agg #[.int .i64 x, .int .i64 y], .int .i64 f]) ∧ OvP n J x y f ∧ Below w.heap.size w w' :=
  (overload_ok A n c J w h hok).mono (by
    rintro e w' ⟨h1 | ⟨a, b, h1, h2⟩, hb⟩
    · exact ⟨0, 0, 4, h1.1, .inl ⟨rfl, rfl, rfl, h1.2⟩, hb⟩
    · exact ⟨a, b, 0, h1, .inr ⟨a, b, rfl, rfl, rfl, h2⟩, hb⟩)
theorem refOverloadQ (A : Option Addr) (n c : Nat) (J : Nat → Nat → Int) (w : World) (h : Recs 4 w A n J) (hok : okJ n J = true) :
    Calls Try.prog 24 #[.slice A n c] w fun e w' => ∃ x y f, e = .returned (.tuple #[.agg #[.int .i64 x, .int .i64 y], .int .i64 f]) ∧ OvQ n J x y f ∧ Below w.heap.size w w' :=
  (refOverload_any A n c J w h hok).mono (by
    rintro e w' ⟨h1 | ⟨a, b, h1, h2⟩, hb⟩
    · exact ⟨0, 0, 4, h1.1, .inl ⟨rfl, rfl, rfl, h1.2⟩, hb⟩
    · exact ⟨a, b, 0, h1, .inr ⟨a, b, rfl, rfl, rfl, h2⟩, hb⟩)

theorem eql2_same (a b : Int) (w : World) : (binOp .eql 39 (.agg #[.int .i64 a, .int .i64 b]) (.agg #[.int .i64 a, .int .i64 b])).run Try.prog w = .ok (.bool true) w := by
  have he : (Op.equalIn 10000 39 (.agg #[.int .i64 a, .int .i64 b]) (.agg #[.int .i64 a, .int .i64 b])).run Try.prog w = .ok true w := by
    have u3 := Try.underlying3
    rw [show (10000 : Nat) = 9999 + 1 from rfl, Op.equalIn]
    simp only [Sem.run_bind, run_underlying Try.underlying39, Result.andThen_ok]
    simp only [Std.Legacy.Range.forIn_eq_forIn_range', Std.Legacy.Range.size, Nat.sub_zero, Nat.add_sub_cancel, Nat.div_one, List.range'_succ, List.range'_zero, List.forIn_cons, List.forIn_nil]
    go_simp
  simp [go_sem, he]
/-- A box of two integers. -/
def B2 (w : World) (g : Nat) (x y : Int) : Prop := w.heap[g]? = some (.cells #[.int .i64 x, .int .i64 y] 39 (0, 0))
theorem B2.cell0 {w : World} {g : Nat} {x y : Int} (h : B2 w g x y) : w.cell? ⟨g, 0, none⟩ = some (.int .i64 x) := by
  have h : w.heap[g]? = _ := h
  simp [World.cell?, h]
theorem B2.cell1 {w : World} {g : Nat} {x y : Int} (h : B2 w g x y) : w.cell? ⟨g, 1, none⟩ = some (.int .i64 y) := by
  have h : w.heap[g]? = _ := h
  simp [World.cell?, h]
theorem B2.keep {w w' : World} {g : Nat} {x y : Int} (h : B2 w g x y) (hb : Below w.heap.size w w') : B2 w' g x y := (hb.block g (Array.getElem?_eq_some_iff.1 h).1).trans h
theorem B2.made (w : World) (x y : Int) : B2 (w.alloc (.cells #[.int .i64 x, .int .i64 y] 39)) w.heap.size x y := heap_alloc_new w _

set_option maxHeartbeats 2000000 in
set_option maxRecDepth 1000000 in
theorem datesPlans_walk (A : Option Addr) (n c : Nat) (J : Nat → Nat → Int) (W : World) (h : ArgK 4 W A n c J) : TrueBelow 4 #[.slice A n c] W := by
  have hnm : n ≤ maxLen := Nat.le_trans h.1 h.2.1
  have H := Lib.hid h.2.2.2
  have Hn := Lib.hid hnm
  clear h hnm
  show Calls _ _ _ _ _
  go_enter Try.func4, Try.ntmps4
  go_wp2_with fail
  refine (of_any A n c J W H.out Hn.out).mono ?_
  rintro e w1 ⟨x, rfl, hx, hb1⟩
  obtain ⟨Ax, cx, rfl, -, hRx, -, hcx, hcm⟩ := hx.form
  have HX := Lib.hid hRx
  have HB1 := Lib.hid hb1
  have Hm10 := Lib.hid (show min n 10 ≤ maxLen by omega)
  have HMin := Lib.hid (okJ_min n J)
  clear hx hRx hb1 hcx hcm
  cases hok : okJ n J with
  | false =>
    have HOk := Lib.hid hok
    have HBad := Lib.hid (show okJ (min n 10) J = false by rw [HMin.out, HOk.out])
    clear hok
    go_wp2_with fail
    refine (plan_bad Ax (min n 10) cx J w1 HX.out Hm10.out HBad.out).use fun w2 hb2 => ?_
    have HB2 := Lib.hid (HB1.out.trans (hb2.mono HB1.out.size))
    clear hb2
    go_wp2_with fail
    refine (of_any A n c J w2 (H.out.keep HB2.out) Hn.out).mono ?_
    rintro e w3 ⟨x, rfl, hx, hb3⟩
    obtain ⟨Ay, cy, rfl, -, hRx, -, hcx, hcm⟩ := hx.form
    have HY := Lib.hid hRx
    have HB3 := Lib.hid (HB2.out.trans (hb3.mono HB2.out.size))
    clear hx hRx hb3 hcx hcm
    go_wp2_with fail
    refine (overload_bad Ay (min n 10) cy J w3 HY.out Hm10.out HBad.out).use fun w4 hb4 => ?_
    have hb4a := HB3.out.trans (hb4.mono HB3.out.size)
    have hb4b := hb4a.alloc hb4a.size (.cells #[.int .i64 0, .int .i64 0] 39)
    have hbx := B2.made w4 0 0
    clear hb4 hb4a
    go_wp2_with fail
    generalize w4.alloc (.cells #[.int .i64 0, .int .i64 0] 39) = W4 at *
    have HB4 := Lib.hid hb4b
    have HX4 := Lib.hid hbx
    clear hb4b hbx
    refine (of_any A n c J W4 (H.out.keep HB4.out) Hn.out).mono ?_
    rintro e w5 ⟨x, rfl, hx, hb5⟩
    obtain ⟨Az, cz, rfl, -, hRx, -, hcx, hcm⟩ := hx.form
    have HZ := Lib.hid hRx
    have HX5 := Lib.hid (HX4.out.keep hb5)
    have HB5 := Lib.hid (HB4.out.trans (hb5.mono HB4.out.size))
    clear hx hRx hb5 hcx hcm
    go_wp2_with fail
    refine (delay_bad Az (min n 10) cz J w5 HZ.out Hm10.out HBad.out).use fun w6 hb6 => ?_
    have HB6 := Lib.hid (HB5.out.trans (hb6.mono HB5.out.size))
    have HX6 := Lib.hid (HX5.out.keep hb6)
    clear hb6
    go_wp2_with fail
    refine (refValid_any A n c J w6 (H.out.keep HB6.out) Hn.out).use fun w7 hb7 => ?_
    have HB7 := Lib.hid (HB6.out.trans (hb7.mono HB6.out.size))
    have hx7 := HX6.out.keep hb7
    have k0 := hx7.cell0
    have k1 := hx7.cell1
    have q2 := eql2_same 0 0
    clear hb7 hx7
    rw [HOk.out]
    go_wp2_with fail
    refine (awake_any w7).use fun w8 hb8 => ?_
    have HB8 := Lib.hid (HB7.out.trans (hb8.mono HB7.out.size))
    clear hb8
    go_wp2
    go_ret
    exact ⟨rfl, HB8.out⟩
  | true =>
    have HOk := Lib.hid hok
    have hn8 := (okJ_iff.1 hok).1
    have hmn : min n 10 = n := by omega
    rw [hmn] at HX ⊢
    have HMn := Lib.hid hmn
    have hn8' := hn8.2
    clear hok hmn Hm10 hn8
    go_wp2_with fail
    refine (plan_ok Ax n cx J w1 HX.out HOk.out).mono ?_
    rintro e w2 ⟨v, rfl, hv, hb2⟩
    have HB2 := Lib.hid (HB1.out.trans (hb2.mono HB1.out.size))
    obtain ⟨Av, cv, rfl, -, hRv, -⟩ := hv.form
    have HV := Lib.hid hRv
    clear hv hRv hb2
    have hm := plS_m 0 HOk.out
    have HEq := Lib.hid (eqKB_self (plS 0 n J).m (plS 0 n J).p)
    go_wp2_with fail
    refine (of_any A n c J w2 (H.out.keep HB2.out) Hn.out).mono ?_
    rintro e w3 ⟨x, rfl, hx, hb3⟩
    rw [HMn.out] at hx
    obtain ⟨Ay, cy, rfl, -, hRx, -, hcx, hcm⟩ := hx.form
    have HY := Lib.hid hRx
    have HB3 := Lib.hid (HB2.out.trans (hb3.mono HB2.out.size))
    have HV3 := Lib.hid (HV.out.keep hb3)
    clear hx hRx hb3 hcx hcm
    go_wp2_with fail
    refine (overload_okP Ay n cy J w3 HY.out HOk.out).mono ?_
    rintro e w4 ⟨ox, oy, of_, rfl, ho, hb4⟩
    have hb4a := HB3.out.trans (hb4.mono HB3.out.size)
    have hb4c := (Below.refl w4.heap.size w4).alloc (Nat.le_refl _) (.cells #[.int .i64 ox, .int .i64 oy] 39)
    have hb4b := hb4a.trans (hb4c.mono hb4a.size)
    have hbx := B2.made w4 ox oy
    have hv4 := (HV3.out.keep hb4).keep hb4c
    have HOv := Lib.hid ho
    clear ho hb4 hb4a hb4c
    go_wp2_with fail
    generalize w4.alloc (.cells #[.int .i64 ox, .int .i64 oy] 39) = W4 at *
    have HB4 := Lib.hid hb4b
    have HX4 := Lib.hid hbx
    have HV4 := Lib.hid hv4
    clear hb4b hbx hv4
    refine (of_any A n c J W4 (H.out.keep HB4.out) Hn.out).mono ?_
    rintro e w5 ⟨x, rfl, hx, hb5⟩
    rw [HMn.out] at hx
    obtain ⟨Az, cz, rfl, -, hRx, -, hcx, hcm⟩ := hx.form
    have HZ := Lib.hid hRx
    have HB5 := Lib.hid (HB4.out.trans (hb5.mono HB4.out.size))
    have HV5 := Lib.hid (HV4.out.keep hb5)
    have HX5 := Lib.hid (HX4.out.keep hb5)
    clear hx hRx hb5 hcx hcm
    go_wp2_with fail
    refine (delay_ok Az n cz J w5 HZ.out HOk.out).mono ?_
    rintro e w6 ⟨d, rfl, hd, hb6⟩
    have HB6 := Lib.hid (HB5.out.trans (hb6.mono HB5.out.size))
    have HV6 := Lib.hid (HV5.out.keep hb6)
    have HX6 := Lib.hid (HX5.out.keep hb6)
    have HD := Lib.hid hd
    clear hd hb6
    go_wp2_with fail
    refine (refValid_any A n c J w6 (H.out.keep HB6.out) Hn.out).use fun w7 hb7 => ?_
    have HB7 := Lib.hid (HB6.out.trans (hb7.mono HB6.out.size))
    have HV7 := Lib.hid (HV6.out.keep hb7)
    have HX7 := Lib.hid (HX6.out.keep hb7)
    clear hb7
    rw [HOk.out]
    go_wp2_with fail
    refine (refOverloadQ A n c J w7 (H.out.keep HB7.out) HOk.out).mono ?_
    rintro e w8 ⟨ox', oy', of', rfl, ho, hb8⟩
    obtain ⟨rfl, rfl, rfl⟩ := ov_agree HOk.out HOv.out ho
    have hb8a := HB7.out.trans (hb8.mono HB7.out.size)
    have hb8c := (Below.refl w8.heap.size w8).alloc (Nat.le_refl _) (.cells #[.int .i64 ox, .int .i64 oy] 39)
    have hb8b := hb8a.trans (hb8c.mono hb8a.size)
    have hby := B2.made w8 ox oy
    have hx8 := (HX7.out.keep hb8).keep hb8c
    have hv8 := (HV7.out.keep hb8).keep hb8c
    clear ho hb8 hb8a hb8c
    go_wp2_with fail
    generalize w8.alloc (.cells #[.int .i64 ox, .int .i64 oy] 39) = W8 at *
    have HB8 := Lib.hid hb8b
    have HX8 := Lib.hid hx8
    have HY8 := Lib.hid hby
    have HV8 := Lib.hid hv8
    clear hb8b hx8 hv8 hby
    refine (own_any Av (plS 0 n J).m cv (plS 0 n J).p W8 HV8.out (by omega)).mono ?_
    rintro e w9 ⟨v9, rfl, hv9, hb9⟩
    have HB9 := Lib.hid (HB8.out.trans (hb9.mono HB8.out.size))
    have HX9 := Lib.hid (HX8.out.keep hb9)
    have HY9 := Lib.hid (HY8.out.keep hb9)
    obtain ⟨A9, c9, rfl, -, hR9, -⟩ := hv9.form
    have HV9 := Lib.hid hR9
    clear hv9 hR9 hb9
    go_wp2_with fail
    refine (refPlan_any A n c J w9 (H.out.keep HB9.out) HOk.out).mono ?_
    rintro e wA ⟨vA, rfl, hvA, hbA⟩
    have HBA := Lib.hid (HB9.out.trans (hbA.mono HB9.out.size))
    have HXA := Lib.hid (HX9.out.keep hbA)
    have HYA := Lib.hid (HY9.out.keep hbA)
    have HVA := Lib.hid (HV9.out.keep hbA)
    obtain ⟨AA, cA, rfl, -, hRA, -⟩ := hvA.form
    have HQA := Lib.hid hRA
    clear hvA hRA hbA
    go_wp2_with fail
    refine (equalR_any A9 AA (plS 0 n J).m (plS 0 n J).m c9 cA (plS 0 n J).p (plS 0 n J).p wA HVA.out HQA.out (by omega) (by omega)).use fun wB hbB => ?_
    have HBB := Lib.hid (HBA.out.trans (hbB.mono HBA.out.size))
    have hxB := HXA.out.keep hbB
    have hyB := HYA.out.keep hbB
    have k0 := hxB.cell0
    have k1 := hxB.cell1
    have j0 := hyB.cell0
    have j1 := hyB.cell1
    have q2 := eql2_same ox oy
    clear hxB hyB
    clear hbB
    rw [HEq.out]
    go_wp2_with fail
    refine (refDelay_any A n c J wB (H.out.keep HBB.out) HOk.out).mono ?_
    rintro e wC ⟨d', rfl, hd', hbC⟩
    obtain rfl := HD.out.uniq hd'
    have HBC := Lib.hid (HBB.out.trans (hbC.mono HBB.out.size))
    clear hd' hbC
    go_wp2_with fail
    refine (awake_any wC).use fun wD hbD => ?_
    have HBD := Lib.hid (HBC.out.trans (hbD.mono HBC.out.size))
    clear hbD
    go_wp2
    go_ret
    exact ⟨rfl, HBD.out⟩
end Go.Proofs.Ythbahfmcmbjglaa
