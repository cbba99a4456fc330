/- RouteWays, walked. -/
import Derived.Test.YtclhamemlpbpiaaWk
import Derived.Test.YtclhamemlpbpiaaWl
namespace Go.Proofs.Ytclhamemlpbpiaa
open Go.RowKit

set_option maxHeartbeats 8000000 in
set_option maxRecDepth 1000000 in
theorem routeWays_walk (N : Int) (A : Option Addr) (m c : Nat) (F : Nat → Nat → Int) (a b : Int) (w : World) (h : ArgK 3 w A m c F) (_ : (Lit.int .i64 a).wf = true) (_ : (Lit.int .i64 b).wf = true) :
    Calls Try.prog 3 #[.agg #[.int .i64 N, .slice A m c], .int .i64 a, .int .i64 b] w fun e w' => e = .returned (.bool true) ∧ Below w.heap.size w w' := by
  have hB1 := MapBR.new w N (.slice A m c)
  have hb1 := (Below.refl w.heap.size w).alloc (Nat.le_refl _) (.cells #[.int .i64 N, .slice A m c] 24)
  obtain ⟨W1, hW1⟩ : ∃ W1, W1 = w.alloc (.cells #[.int .i64 N, .slice A m c] 24) := ⟨_, rfl⟩
  rw [← hW1] at hB1 hb1
  have HWW : Hid (w.alloc (.cells #[.int .i64 N, .slice A m c] 24) = W1) := Lib.hid hW1.symm
  have HMB : Hid (∀ w', Below W1.heap.size W1 w' → MapBR w' w.heap.size N (.slice A m c) ∧ Below w.heap.size w w') := Lib.hid (fun w' hb => ⟨hB1.keep hb, hb1.trans (hb.mono hb1.size)⟩)
  have hmx : m ≤ maxLen := by have := h.1; have := h.2.1; omega
  have HOf := Lib.hid (fun w' (hb : Below W1.heap.size W1 w') => ofM_any A m c N F w' (h.2.2.2.keep (hb1.trans (hb.mono hb1.size))) hmx)
  have HVa := Lib.hid (fun w' (hb : Below W1.heap.size W1 w') => refValidM_any A m c N F w' (h.2.2.2.keep (hb1.trans (hb.mono hb1.size))) hmx)
  have HRe := Lib.hid (fun w' (hb : Below W1.heap.size W1 w') => h.2.2.2.keep (hb1.trans (hb.mono hb1.size)))
  have HSa := Lib.hid (fun w' => stop_any A m c N a w')
  have HSb := Lib.hid (fun w' => stop_any A m c N b w')
  clear hB1 hb1 hW1 h hmx
  go_enter Try.func3, Try.ntmps3
  go_wp2_with fail
  rw [HWW.out]
  refine (HOf.out W1 (Below.refl _ _)).mono ?_
  rintro e w2 ⟨A2, c2, rfl, hO2, hb2⟩
  have hR2 : Recs 3 w2 A2 (min m 18) F := by
    obtain ⟨A3, c3, e, -, hR, -⟩ := hO2.form
    injection e with e1 e2 e3
    subst e1
    exact hR
  have HR2 := Lib.hid hR2
  have HB2 := Lib.hid hb2
  clear hO2 hb2 hR2 HWW
  cases hok : okM N m F with
  | false =>
    have HP := Lib.hid (Distances_bad A2 (min m 18) c2 N F w2 HR2.out (by omega) (by rw [okM_min]; exact hok))
    have HQ := Lib.hid (fun A4 c4 w' (h : Recs 3 w' A4 (min m 18) F) => Way_bad A4 (min m 18) c4 N a b F w' h (by omega) (.inl (by rw [okM_min]; exact hok)))
    rw [hok] at HVa
    clear hok
    go_wp2_with fail
    refine HP.out.mono ?_
    rintro e w3 ⟨rfl, hb3⟩
    have HB3 := Lib.hid (HB2.out.trans (hb3.mono HB2.out.size))
    clear hb3
    have q0 := (HMB.out _ HB3.out).1.c0
    have q1 := (HMB.out _ HB3.out).1.c1
    go_wp2_with fail
    refine (HOf.out _ HB3.out).mono ?_
    rintro e w4 ⟨A4, c4, rfl, hO4, hb4⟩
    have hR4 : Recs 3 w4 A4 (min m 18) F := by
      obtain ⟨A5, c5, e, -, hR, -⟩ := hO4.form
      injection e with e1 e2 e3
      subst e1
      exact hR
    have HR4 := Lib.hid hR4
    have HB4 := Lib.hid (HB3.out.trans (hb4.mono HB3.out.size))
    clear hO4 hb4 hR4 q0 q1
    go_wp2_with fail
    refine (HQ.out _ _ _ HR4.out).mono ?_
    rintro e w5 ⟨rfl, hb5⟩
    have HB5 := Lib.hid (HB4.out.trans (hb5.mono HB4.out.size))
    clear hb5
    have q0 := (HMB.out _ HB5.out).1.c0
    have q1 := (HMB.out _ HB5.out).1.c1
    go_wp2_with fail
    refine (HVa.out _ HB5.out).use fun w6 hb => ?_
    have HB6 := Lib.hid (HB5.out.trans (hb.mono HB5.out.size))
    clear hb q0 q1
    go_wp2_with fail
    refine (awake_any _).use fun w7 hb => ?_
    have HB7 := Lib.hid (HB6.out.trans (hb.mono HB6.out.size))
    clear hb
    go_wp2
    go_ret
    exact ⟨rfl, (HMB.out _ HB7.out).2⟩
  | true =>
    obtain ⟨n, rfl⟩ : ∃ n : Nat, N = n := ⟨N.toNat, by have := (okM_iff.1 hok).1; omega⟩
    have hn8 : n ≤ 8 := by have := (okM_iff.1 hok).1; omega
    have hn1 : 0 < n := by have := (okM_iff.1 hok).1; omega
    have hok' : okM n (min m 18) F = true := by rw [okM_min]; exact hok
    have hm18 : m ≤ 16 := (okM_iff.1 hok).2.1
    have HM : Hid (min m 18 = m) := Lib.hid (by omega)
    have HP := Lib.hid (Distances_ok A2 (min m 18) c2 n F w2 HR2.out hok')
    rw [hok] at HVa
    have HRd := Lib.hid (fun w' (hb : Below W1.heap.size W1 w') => refDistances_ok A m c n F w' (HRe.out w' hb) hok)
    have hT : dsT n (min m 18) F = dsT n m F := by rw [HM.out]
    rw [hT] at HP
    have HDs : Hid ((fun a b => dOf (dsT n m F (8 * a + b))) = rowD (dsT n m F)) := Lib.hid rfl
    go_wp2_with fail
    refine HP.out.mono ?_
    rintro e w3 ⟨G, V, rfl, -, hg, ho, hb3⟩
    have HB3 := Lib.hid (HB2.out.trans (hb3.mono HB2.out.size))
    have HD3 := Lib.hid (RowsD.of hn1 hg ho)
    clear hg ho hb3 HP
    have q0 := (HMB.out _ HB3.out).1.c0
    have q1 := (HMB.out _ HB3.out).1.c1
    go_wp2_with fail
    refine (HOf.out _ HB3.out).mono ?_
    rintro e w4 ⟨A4, c4, rfl, hO4, hb4⟩
    have hR4 : Recs 3 w4 A4 (min m 18) F := by
      obtain ⟨A5, c5, e, -, hR, -⟩ := hO4.form
      injection e with e1 e2 e3
      subst e1
      exact hR
    have HR4 := Lib.hid hR4
    have HB4 := Lib.hid (HB3.out.trans (hb4.mono HB3.out.size))
    have HD4 := Lib.hid (HD3.out.keep hb4)
    clear hO4 hb4 hR4 q0 q1
    cases hia : inB (n : Int) a with
    | false =>
      have HQ := Lib.hid (fun A4 c4 w' (h : Recs 3 w' A4 (min m 18) F) => Way_bad A4 (min m 18) c4 n a b F w' h (by omega) (.inr (.inl hia)))
      rw [hia] at HSa
      clear hok hok' hT hia
      go_wp2_with fail
      refine (HQ.out _ _ _ HR4.out).mono ?_
      rintro e w5 ⟨rfl, hb5⟩
      have HB5 := Lib.hid (HB4.out.trans (hb5.mono HB4.out.size))
      have HD5 := Lib.hid (HD4.out.keep hb5)
      clear hb5
      have q0 := (HMB.out _ HB5.out).1.c0
      have q1 := (HMB.out _ HB5.out).1.c1
      go_wp2_with fail
      refine (HVa.out _ HB5.out).use fun w6 hb => ?_
      have HB6 := Lib.hid (HB5.out.trans (hb.mono HB5.out.size))
      have HD6 := Lib.hid (HD5.out.keep hb)
      clear hb q0 q1
      have q0 := (HMB.out _ HB6.out).1.c0
      have q1 := (HMB.out _ HB6.out).1.c1
      go_wp2_with fail
      refine (HRd.out w6 HB6.out).mono ?_
      rintro e w7 ⟨G7, R7, rfl, hM7, hb⟩
      have HB7 := Lib.hid (HB6.out.trans (hb.mono HB6.out.size))
      have hrw := hM7.rows
      rw [HDs.out] at hrw
      have HSm := Lib.hid (sameD G G7 n n n (rowD (dsT n m F)) w7 (HD6.out.keep hb) hrw hn8)
      clear hb q0 q1 hM7 hrw
      go_wp2_with fail
      refine Ro.use HSm.out ?_
      intro w8 hd8
      have hb := hd8.below w7.heap.size
      have HB8 := Lib.hid (HB7.out.trans (hb.mono HB7.out.size))
      clear hb hd8
      go_wp2_with fail
      refine (awake_any _).use fun w9 hb => ?_
      have HB9 := Lib.hid (HB8.out.trans (hb.mono HB8.out.size))
      clear hb
      have q0 := (HMB.out _ HB9.out).1.c0
      have q1 := (HMB.out _ HB9.out).1.c1
      go_wp2_with fail
      refine (HSa.out _).use fun w10 hb => ?_
      have HB10 := Lib.hid (HB9.out.trans (hb.mono HB9.out.size))
      clear hb q0 q1
      go_wp2
      go_ret
      exact ⟨rfl, (HMB.out _ HB10.out).2⟩
    | true =>
      cases hib : inB (n : Int) b with
      | false =>
        have HQ := Lib.hid (fun A4 c4 w' (h : Recs 3 w' A4 (min m 18) F) => Way_bad A4 (min m 18) c4 n a b F w' h (by omega) (.inr (.inr hib)))
        rw [hia] at HSa
        rw [hib] at HSb
        clear hok hok' hT hia hib
        go_wp2_with fail
        refine (HQ.out _ _ _ HR4.out).mono ?_
        rintro e w5 ⟨rfl, hb5⟩
        have HB5 := Lib.hid (HB4.out.trans (hb5.mono HB4.out.size))
        have HD5 := Lib.hid (HD4.out.keep hb5)
        clear hb5
        have q0 := (HMB.out _ HB5.out).1.c0
        have q1 := (HMB.out _ HB5.out).1.c1
        go_wp2_with fail
        refine (HVa.out _ HB5.out).use fun w6 hb => ?_
        have HB6 := Lib.hid (HB5.out.trans (hb.mono HB5.out.size))
        have HD6 := Lib.hid (HD5.out.keep hb)
        clear hb q0 q1
        have q0 := (HMB.out _ HB6.out).1.c0
        have q1 := (HMB.out _ HB6.out).1.c1
        go_wp2_with fail
        refine (HRd.out w6 HB6.out).mono ?_
        rintro e w7 ⟨G7, R7, rfl, hM7, hb⟩
        have HB7 := Lib.hid (HB6.out.trans (hb.mono HB6.out.size))
        have hrw := hM7.rows
        rw [HDs.out] at hrw
        have HSm := Lib.hid (sameD G G7 n n n (rowD (dsT n m F)) w7 (HD6.out.keep hb) hrw hn8)
        clear hb q0 q1 hM7 hrw
        go_wp2_with fail
        refine Ro.use HSm.out ?_
        intro w8 hd8
        have hb := hd8.below w7.heap.size
        have HB8 := Lib.hid (HB7.out.trans (hb.mono HB7.out.size))
        clear hb hd8
        go_wp2_with fail
        refine (awake_any _).use fun w9 hb => ?_
        have HB9 := Lib.hid (HB8.out.trans (hb.mono HB8.out.size))
        clear hb
        have q0 := (HMB.out _ HB9.out).1.c0
        have q1 := (HMB.out _ HB9.out).1.c1
        go_wp2_with fail
        refine (HSa.out _).use fun w10 hb => ?_
        have HB10 := Lib.hid (HB9.out.trans (hb.mono HB9.out.size))
        clear hb q0 q1
        have q0 := (HMB.out _ HB10.out).1.c0
        have q1 := (HMB.out _ HB10.out).1.c1
        go_wp2_with fail
        refine (HSb.out _).use fun w11 hb => ?_
        have HB11 := Lib.hid (HB10.out.trans (hb.mono HB10.out.size))
        clear hb q0 q1
        go_wp2
        go_ret
        exact ⟨rfl, (HMB.out _ HB11.out).2⟩
      | true =>
        obtain ⟨x, rfl⟩ : ∃ x : Nat, a = x := ⟨a.toNat, by have := inB_t.1 hia; omega⟩
        obtain ⟨y, rfl⟩ : ∃ y : Nat, b = y := ⟨b.toNat, by have := inB_t.1 hib; omega⟩
        have hxn : x < n := by have := inB_t.1 hia; omega
        have hyn : y < n := by have := inB_t.1 hib; omega
        have HQ := Lib.hid (fun A4 c4 w' (h : Recs 3 w' A4 (min m 18) F) => Way_ok A4 (min m 18) c4 n x y F w' h hok' hxn hyn)
        have hS : stT n (min m 18) F = stT n m F := by rw [HM.out]
        rw [hT, hS] at HQ
        have HRw := Lib.hid (fun w' (hb : Below W1.heap.size W1 w') => refWay_ok A m c n x y F w' (HRe.out w' hb) hok hxn hyn)
        rw [hia] at HSa
        rw [hib] at HSb
        have HLen := Lib.hid (fun (hlt : dsT n m F (8 * x + y) < 400) L (hL : wyF n (stT n m F) (dsT n m F) y (dsT n m F (8 * x + y)).toNat [(x : Int)] x none = some L) => (show L.length ≤ 8 by
          have hnn := (dsT_met hok).nn (8 * x + y)
          obtain ⟨v, hv, -, -, hl, -⟩ := way_same (f := (dsT n m F (8 * x + y)).toNat) hok hxn hyn hlt (by omega)
          rw [hv] at hL
          injection hL with hL
          rw [← hL]
          omega))
        clear hok hok' hT hS hia hib
        go_wp2_with fail
        refine (HQ.out _ _ _ HR4.out).mono ?_
        rintro e w5 ⟨hor, hb5⟩
        have HB5 := Lib.hid (HB4.out.trans (hb5.mono HB4.out.size))
        have HD5 := Lib.hid (HD4.out.keep hb5)
        clear hb5
        rcases hor with ⟨h4, rfl⟩ | ⟨h4, v, Lw, rfl, hw, hO⟩
        · have H4 := Lib.hid h4
          clear h4
          have q0 := (HMB.out _ HB5.out).1.c0
          have q1 := (HMB.out _ HB5.out).1.c1
          go_wp2_with fail
          refine (HVa.out _ HB5.out).use fun w6 hb => ?_
          have HB6 := Lib.hid (HB5.out.trans (hb.mono HB5.out.size))
          have HD6 := Lib.hid (HD5.out.keep hb)
          clear hb q0 q1
          have q0 := (HMB.out _ HB6.out).1.c0
          have q1 := (HMB.out _ HB6.out).1.c1
          go_wp2_with fail
          refine (HRd.out w6 HB6.out).mono ?_
          rintro e w7 ⟨G7, R7, rfl, hM7, hb⟩
          have HB7 := Lib.hid (HB6.out.trans (hb.mono HB6.out.size))
          have hrw := hM7.rows
          rw [HDs.out] at hrw
          have HSm := Lib.hid (sameD G G7 n n n (rowD (dsT n m F)) w7 (HD6.out.keep hb) hrw hn8)
          clear hb q0 q1 hM7 hrw
          go_wp2_with fail
          refine Ro.use HSm.out ?_
          intro w8 hd8
          have hb := hd8.below w7.heap.size
          have HB8 := Lib.hid (HB7.out.trans (hb.mono HB7.out.size))
          clear hb hd8
          go_wp2_with fail
          refine (awake_any _).use fun w9 hb => ?_
          have HB9 := Lib.hid (HB8.out.trans (hb.mono HB8.out.size))
          clear hb
          have q0 := (HMB.out _ HB9.out).1.c0
          have q1 := (HMB.out _ HB9.out).1.c1
          go_wp2_with fail
          refine (HSa.out _).use fun w10 hb => ?_
          have HB10 := Lib.hid (HB9.out.trans (hb.mono HB9.out.size))
          clear hb q0 q1
          have q0 := (HMB.out _ HB10.out).1.c0
          have q1 := (HMB.out _ HB10.out).1.c1
          go_wp2_with fail
          refine (HSb.out _).use fun w11 hb => ?_
          have HB11 := Lib.hid (HB10.out.trans (hb.mono HB10.out.size))
          clear hb q0 q1
          have q0 := (HMB.out _ HB11.out).1.c0
          have q1 := (HMB.out _ HB11.out).1.c1
          go_wp2_with fail
          refine (HRw.out w11 HB11.out).mono ?_
          rintro e w12 ⟨hor, hb⟩
          have HB12 := Lib.hid (HB11.out.trans (hb.mono HB11.out.size))
          rcases hor with ⟨-, rfl⟩ | ⟨h5, -⟩
          · clear hb q0 q1
            have HE := Lib.hid (equal_any none none 0 0 0 0 (fun _ => 0) (fun _ => 0) w12 Ints.zero Ints.zero (by omega) (by omega))
            rw [eqB_self] at HE
            go_wp2_with fail
            refine Ro.use HE.out ?_
            intro w13 hd
            have HB13 := Lib.hid (HB12.out.trans (hd.below _))
            clear hd
            go_wp2
            go_ret
            exact ⟨rfl, (HMB.out _ HB13.out).2⟩
          · have := H4.out
            omega
        · have H4 := Lib.hid h4
          obtain ⟨A5, c5, rfl, -, hX5, -, -⟩ := hO.form
          have HX5 := Lib.hid hX5
          have HW := Lib.hid hw
          have HLn : Hid (Lw.length ≤ 8) := Lib.hid (HLen.out h4 Lw hw)
          clear h4 hO hX5 hw
          have q0 := (HMB.out _ HB5.out).1.c0
          have q1 := (HMB.out _ HB5.out).1.c1
          go_wp2_with fail
          refine (HVa.out _ HB5.out).use fun w6 hb => ?_
          have HB6 := Lib.hid (HB5.out.trans (hb.mono HB5.out.size))
          have HD6 := Lib.hid (HD5.out.keep hb)
          have HX6 := Lib.hid (HX5.out.keep hb)
          clear hb q0 q1
          have q0 := (HMB.out _ HB6.out).1.c0
          have q1 := (HMB.out _ HB6.out).1.c1
          go_wp2_with fail
          refine (HRd.out w6 HB6.out).mono ?_
          rintro e w7 ⟨G7, R7, rfl, hM7, hb⟩
          have HB7 := Lib.hid (HB6.out.trans (hb.mono HB6.out.size))
          have hrw := hM7.rows
          rw [HDs.out] at hrw
          have HSm := Lib.hid (sameD G G7 n n n (rowD (dsT n m F)) w7 (HD6.out.keep hb) hrw hn8)
          have HX7 := Lib.hid (HX6.out.keep hb)
          clear hb q0 q1 hM7 hrw
          go_wp2_with fail
          refine Ro.use HSm.out ?_
          intro w8 hd8
          have hb := hd8.below w7.heap.size
          have HB8 := Lib.hid (HB7.out.trans (hb.mono HB7.out.size))
          have HX8 := Lib.hid (HX7.out.keep hb)
          clear hb hd8
          go_wp2_with fail
          refine (awake_any _).use fun w9 hb => ?_
          have HB9 := Lib.hid (HB8.out.trans (hb.mono HB8.out.size))
          have HX9 := Lib.hid (HX8.out.keep hb)
          clear hb
          have q0 := (HMB.out _ HB9.out).1.c0
          have q1 := (HMB.out _ HB9.out).1.c1
          go_wp2_with fail
          refine (HSa.out _).use fun w10 hb => ?_
          have HB10 := Lib.hid (HB9.out.trans (hb.mono HB9.out.size))
          have HX10 := Lib.hid (HX9.out.keep hb)
          clear hb q0 q1
          have q0 := (HMB.out _ HB10.out).1.c0
          have q1 := (HMB.out _ HB10.out).1.c1
          go_wp2_with fail
          refine (HSb.out _).use fun w11 hb => ?_
          have HB11 := Lib.hid (HB10.out.trans (hb.mono HB10.out.size))
          have HX11 := Lib.hid (HX10.out.keep hb)
          clear hb q0 q1
          have q0 := (HMB.out _ HB11.out).1.c0
          have q1 := (HMB.out _ HB11.out).1.c1
          go_wp2_with fail
          refine (HRw.out w11 HB11.out).mono ?_
          rintro e w12 ⟨hor, hb⟩
          have HB12 := Lib.hid (HB11.out.trans (hb.mono HB11.out.size))
          have HX12 := Lib.hid (HX11.out.keep hb)
          rcases hor with ⟨h5, -⟩ | ⟨-, v2, L2, rfl, hw2, hA⟩
          · have := H4.out
            omega
          · have hw1 := HW.out
            rw [hw1] at hw2
            injection hw2 with hw2
            subst hw2
            obtain ⟨b7, c7, rfl, hI7, -⟩ := hA
            have HE := Lib.hid (equal_any A5 (some b7) Lw.length Lw.length c5 c7 (fun k => Lw.getD k 0) (fun k => Lw.getD k 0) w12 HX12.out hI7 (by have := HLn.out; omega) (by have := HLn.out; omega))
            rw [eqB_self] at HE
            clear hb q0 q1 hI7 hw1
            go_wp2_with fail
            refine Ro.use HE.out ?_
            intro w13 hd
            have HB13 := Lib.hid (HB12.out.trans (hd.below _))
            clear hd
            go_wp2
            go_ret
            exact ⟨rfl, (HMB.out _ HB13.out).2⟩
end Go.Proofs.Ytclhamemlpbpiaa
