/- RoutePotentials, walked. -/
import Derived.Test.YtclhamemlpbpiaaWg
import Derived.Test.YtclhamemlpbpiaaWh
namespace Go.Proofs.Ytclhamemlpbpiaa
open Go.RowKit

set_option maxHeartbeats 8000000 in
set_option maxRecDepth 1000000 in
theorem routePotentials_walk (N : Int) (A : Option Addr) (m c : Nat) (F : Nat → Nat → Int) (a : Int) (w : World) (h : ArgK 3 w A m c F) (_ : (Lit.int .i64 a).wf = true) :
    Calls Try.prog 5 #[.agg #[.int .i64 N, .slice A m c], .int .i64 a] w fun e w' => e = .returned (.bool true) ∧ Below w.heap.size w w' := by
  have hB1 := MapBR.new w N (.slice A m c)
  have hb1 := (Below.refl w.heap.size w).alloc (Nat.le_refl _) (.cells #[.int .i64 N, .slice A m c] 24)
  obtain ⟨W1, hW1⟩ : ∃ W1, W1 = w.alloc (.cells #[.int .i64 N, .slice A m c] 24) := ⟨_, rfl⟩
  rw [← hW1] at hB1 hb1
  have HWW : Hid (w.alloc (.cells #[.int .i64 N, .slice A m c] 24) = W1) := Lib.hid hW1.symm
  have HMB : Hid (∀ w', Below W1.heap.size W1 w' → MapBR w' w.heap.size N (.slice A m c) ∧ Below w.heap.size w w') := Lib.hid (fun w' hb => ⟨hB1.keep hb, hb1.trans (hb.mono hb1.size)⟩)
  have hmx : m ≤ maxLen := by have := h.1; have := h.2.1; omega
  have HOf := Lib.hid (ofM_any A m c N F W1 (h.2.2.2.keep hb1) hmx)
  have HVa := Lib.hid (fun w' (hb : Below W1.heap.size W1 w') => refValidM_any A m c N F w' (h.2.2.2.keep (hb1.trans (hb.mono hb1.size))) hmx)
  have HRe := Lib.hid (fun w' (hb : Below W1.heap.size W1 w') => h.2.2.2.keep (hb1.trans (hb.mono hb1.size)))
  have HSp := Lib.hid (fun w' => stop_any A m c N a w')
  clear hB1 hb1 hW1 h hmx
  go_enter Try.func5, Try.ntmps5
  go_wp2_with fail
  rw [HWW.out]
  refine HOf.out.mono ?_
  rintro e w2 ⟨A2, c2, rfl, hO2, hb2⟩
  have hR2 : Recs 3 w2 A2 (min m 18) F := by
    obtain ⟨A3, c3, e, -, hR, -⟩ := hO2.form
    injection e with e1 e2 e3
    subst e1
    exact hR
  have HR2 := Lib.hid hR2
  have HB2 := Lib.hid hb2
  clear hO2 hb2 hR2 HOf HWW
  cases hok : okM N m F with
  | false =>
    have HP := Lib.hid (Potentials_bad A2 (min m 18) c2 N a F w2 HR2.out (by omega) (by rw [okM_min]; exact hok))
    rw [hok] at HVa
    clear hok
    go_wp2_with fail
    refine HP.out.mono ?_
    rintro e w3 ⟨rfl, hb3⟩
    have HB3 := Lib.hid (HB2.out.trans (hb3.mono HB2.out.size))
    have q0 := (HMB.out _ HB3.out).1.c0
    have q1 := (HMB.out _ HB3.out).1.c1
    clear hb3
    go_wp2_with fail
    refine (HVa.out _ HB3.out).use fun w4 hb4 => ?_
    have HB4 := Lib.hid (HB3.out.trans (hb4.mono HB3.out.size))
    clear hb4 q0 q1
    go_wp2_with fail
    refine (awake_any w4).use fun w9 hb9 => ?_
    have HB9 := Lib.hid (HB4.out.trans (hb9.mono HB4.out.size))
    clear hb9
    go_wp2
    go_ret
    exact ⟨rfl, (HMB.out _ HB9.out).2⟩
  | true =>
    obtain ⟨n, rfl⟩ : ∃ n : Nat, N = n := ⟨N.toNat, by have := (okM_iff.1 hok).1; omega⟩
    have hn8 : n ≤ 8 := by have := (okM_iff.1 hok).1; omega
    have hok' : okM n (min m 18) F = true := by rw [okM_min]; exact hok
    have hm18 : m ≤ 16 := (okM_iff.1 hok).2.1
    rw [hok] at HVa
    cases hin : inB (n : Int) a with
    | false =>
      have HP := Lib.hid (Potentials_out A2 (min m 18) c2 n a F w2 HR2.out (by omega) hok' hin)
      rw [hin] at HSp
      clear hok hok' hin
      go_wp2_with fail
      refine HP.out.mono ?_
      rintro e w3 ⟨rfl, hb3⟩
      have HB3 := Lib.hid (HB2.out.trans (hb3.mono HB2.out.size))
      have q0 := (HMB.out _ HB3.out).1.c0
      have q1 := (HMB.out _ HB3.out).1.c1
      clear hb3
      go_wp2_with fail
      refine (HVa.out _ HB3.out).use fun w4 hb4 => ?_
      have HB4 := Lib.hid (HB3.out.trans (hb4.mono HB3.out.size))
      clear hb4 q0 q1
      have q0 := (HMB.out _ HB4.out).1.c0
      have q1 := (HMB.out _ HB4.out).1.c1
      go_wp2_with fail
      refine (HSp.out w4).use fun w5 hb5 => ?_
      have HB5 := Lib.hid (HB4.out.trans (hb5.mono HB4.out.size))
      clear hb5 q0 q1
      go_wp2_with fail
      refine (awake_any w5).use fun w9 hb9 => ?_
      have HB9 := Lib.hid (HB5.out.trans (hb9.mono HB5.out.size))
      clear hb9
      go_wp2
      go_ret
      exact ⟨rfl, (HMB.out _ HB9.out).2⟩
    | true =>
      obtain ⟨x, rfl⟩ : ∃ x : Nat, a = x := ⟨a.toNat, by have := inB_t.1 hin; omega⟩
      have hxn : x < n := by have := inB_t.1 hin; omega
      have HP := Lib.hid (potentials_ok A2 (min m 18) c2 n x F w2 HR2.out hok' hxn)
      rw [hin] at HSp
      have HRd := Lib.hid (fun w' (hb : Below W1.heap.size W1 w') => refDistances_ok A m c n F w' (HRe.out w' hb) hok)
      have HHd := Lib.hid (has_dOf hok x)
      have HAl := Lib.hid (dOf_all (n := n) (m := m) (F := F) (a := x))
      have hT : dsT n (min m 18) F = dsT n m F := by rw [show min m 18 = m by omega]
      rw [hT] at HP
      clear hok hok' hin hT
      generalize dsT n m F = T at *
      go_wp2_with fail
      refine HP.out.mono ?_
      rintro e w3 ⟨hor, hb3⟩
      have HB3 := Lib.hid (HB2.out.trans (hb3.mono HB2.out.size))
      have q0 := (HMB.out _ HB3.out).1.c0
      have q1 := (HMB.out _ HB3.out).1.c1
      clear hb3
      rcases hor with ⟨hh, rfl⟩ | ⟨hh, v, rfl, hO⟩
      · rw [hh] at HHd
        clear hh HAl
        go_wp2_with fail
        refine (HVa.out _ HB3.out).use fun w4 hb4 => ?_
        have HB4 := Lib.hid (HB3.out.trans (hb4.mono HB3.out.size))
        clear hb4 q0 q1
        have q0 := (HMB.out _ HB4.out).1.c0
        have q1 := (HMB.out _ HB4.out).1.c1
        go_wp2_with fail
        refine (HSp.out w4).use fun w5 hb5 => ?_
        have HB5 := Lib.hid (HB4.out.trans (hb5.mono HB4.out.size))
        clear hb5 q0 q1
        have q0 := (HMB.out _ HB5.out).1.c0
        have q1 := (HMB.out _ HB5.out).1.c1
        go_wp2_with fail
        refine (HRd.out w5 HB5.out).mono ?_
        rintro e w6 ⟨G, R, rfl, hM6, hb6⟩
        have HB6 := Lib.hid (HB5.out.trans (hb6.mono HB5.out.size))
        have r1 := hM6.cell x hxn
        have HM6 := Lib.hid hM6
        clear hb6 q0 q1 hM6
        have HCo := Lib.hid (contains_any (some ⟨R x, 0, none⟩) n n (fun b => dOf (T (8 * x + b))) (-1) w6 (fun _ => ⟨R x, 0, rfl, fun j hj => by rw [Nat.zero_add]; exact RowI.cell (HM6.out.row x hxn) hj⟩) (by omega))
        rw [HHd.out] at HCo
        go_wp2_with fail
        refine HCo.out.mono ?_
        rintro e w7 ⟨rfl, rfl⟩
        clear r1
        go_wp2_with fail
        refine (awake_any w6).use fun w9 hb9 => ?_
        have HB9 := Lib.hid (HB6.out.trans (hb9.mono HB6.out.size))
        clear hb9
        go_wp2
        go_ret
        exact ⟨rfl, (HMB.out _ HB9.out).2⟩
      · rw [hh] at HHd
        have HAt := Lib.hid (HAl.out hh)
        obtain ⟨A3, c3, rfl, -, hI3, -, -⟩ := hO.form
        rw [lst_len] at hI3 ⊢
        have HI3 := Lib.hid (hI3.congr (g := fun b => dOf (T (8 * x + b))) (fun b hb => by rw [lst_getD _ _ _ hb]; exact HAt.out b hb))
        clear hh HAl hO hI3
        go_wp2_with fail
        refine (HVa.out _ HB3.out).use fun w4 hb4 => ?_
        have HB4 := Lib.hid (HB3.out.trans (hb4.mono HB3.out.size))
        have HK4 := Lib.hid hb4
        clear hb4 q0 q1
        have q0 := (HMB.out _ HB4.out).1.c0
        have q1 := (HMB.out _ HB4.out).1.c1
        go_wp2_with fail
        refine (HSp.out w4).use fun w5 hb5 => ?_
        have HB5 := Lib.hid (HB4.out.trans (hb5.mono HB4.out.size))
        have HK5 := Lib.hid (HK4.out.trans (hb5.mono HK4.out.size))
        clear hb5 q0 q1
        have q0 := (HMB.out _ HB5.out).1.c0
        have q1 := (HMB.out _ HB5.out).1.c1
        go_wp2_with fail
        refine (HRd.out w5 HB5.out).mono ?_
        rintro e w6 ⟨G, R, rfl, hM6, hb6⟩
        have HB6 := Lib.hid (HB5.out.trans (hb6.mono HB5.out.size))
        have HK6 := Lib.hid (HK5.out.trans (hb6.mono HK5.out.size))
        have r1 := hM6.cell x hxn
        have HM6 := Lib.hid hM6
        clear hb6 q0 q1 hM6
        have HI6 := Lib.hid ((HI3.out.keep HK6.out))
        have hrow : Ints w6 (some ⟨R x, 0, none⟩) n (fun b => dOf (T (8 * x + b))) := fun _ => ⟨R x, 0, rfl, fun j hj => by rw [Nat.zero_add]; exact RowI.cell (HM6.out.row x hxn) hj⟩
        have HRow := Lib.hid hrow
        have HCo := Lib.hid (contains_any (some ⟨R x, 0, none⟩) n n (fun b => dOf (T (8 * x + b))) (-1) w6 hrow (by omega))
        rw [HHd.out] at HCo
        clear hrow
        go_wp2_with fail
        refine HCo.out.mono ?_
        rintro e w7 ⟨rfl, rfl⟩
        have HEq := Lib.hid (equal_any A3 (some ⟨R x, 0, none⟩) n n c3 n (fun b => dOf (T (8 * x + b))) (fun b => dOf (T (8 * x + b))) w6 HI6.out HRow.out (by omega) (by omega))
        rw [eqB_self] at HEq
        clear r1
        go_wp2_with fail
        refine Ro.use HEq.out ?_
        intro w8 hd8
        have HB8 := Lib.hid (HB6.out.trans (hd8.below _))
        clear hd8
        go_wp2_with fail
        refine (awake_any w8).use fun w9 hb9 => ?_
        have HB9 := Lib.hid (HB8.out.trans (hb9.mono HB8.out.size))
        clear hb9
        go_wp2
        go_ret
        exact ⟨rfl, (HMB.out _ HB9.out).2⟩
end Go.Proofs.Ytclhamemlpbpiaa
