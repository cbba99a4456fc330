/- RouteShown, walked. -/
import Derived.Test.YtclhamemlpbpiaaRtc
namespace Go.Proofs.Ytclhamemlpbpiaa
open Go.RowKit

set_option maxHeartbeats 8000000 in
set_option maxRecDepth 1000000 in
theorem routeShown_walk (N : Int) (A : Option Addr) (m c : Nat) (F : Nat → Nat → Int) (B : Option Addr) (k cB : Nat) (f : Nat → Int) (C : Option Addr) (kp cC : Nat) (p : Nat → Int) (w : World) (h : ArgK 3 w A m c F) (hI : ArgI w B k cB f) (hP : ArgI w C kp cC p) :
    Calls Try.prog 4 #[.agg #[.int .i64 N, .slice A m c], .slice B k cB, .slice C kp cC] w fun e w' => e = .returned (.bool true) ∧ Below w.heap.size w w' := by
  have hB1 := MapBR.new w N (.slice A m c)
  have hb1 := (Below.refl w.heap.size w).alloc (Nat.le_refl _) (.cells #[.int .i64 N, .slice A m c] 24)
  obtain ⟨W1, hW1⟩ : ∃ W1, W1 = w.alloc (.cells #[.int .i64 N, .slice A m c] 24) := ⟨_, rfl⟩
  rw [← hW1] at hB1 hb1
  have HWW : Hid (w.alloc (.cells #[.int .i64 N, .slice A m c] 24) = W1) := Lib.hid hW1.symm
  have HMB : Hid (∀ w', Below W1.heap.size W1 w' → MapBR w' w.heap.size N (.slice A m c) ∧ Below w.heap.size w w') := Lib.hid (fun w' hb => ⟨hB1.keep hb, hb1.trans (hb.mono hb1.size)⟩)
  have hmx : m ≤ maxLen := by have := h.1; have := h.2.1; omega
  have hkx : k ≤ 9223372036854775807 := by have := hI.1; have := hI.2.1; unfold maxLen at this; omega
  have hkpx : kp ≤ 9223372036854775807 := by have := hP.1; have := hP.2.1; unfold maxLen at this; omega
  have hkc : k ≤ cB := hI.1
  have HOf := Lib.hid (ofM_any A m c N F W1 (h.2.2.2.keep hb1) hmx)
  have HVa := Lib.hid (fun w' (hb : Below W1.heap.size W1 w') => refValidM_any A m c N F w' (h.2.2.2.keep (hb1.trans (hb.mono hb1.size))) hmx)
  have HLf := Lib.hid (fun w' (hb : Below W1.heap.size W1 w') => list_any B k cB f w' (hI.below (hb1.trans (hb.mono hb1.size))))
  have HLp := Lib.hid (fun w' (hb : Below W1.heap.size W1 w') => list_any C kp cC p w' (hP.below (hb1.trans (hb.mono hb1.size))))
  have HSh : Hid (∀ n : Nat, N = n → okM N m F = true → ∀ w', Below W1.heap.size W1 w' → Lr 21 #[.agg #[.int .i64 N, .slice A m c], .slice B k cB, .slice C kp cC] w' (.bool (shR n m F f k p kp))) := Lib.hid (fun n e hok w' hb => by
    subst e
    exact refShown_any A B C m c n k cB kp cC F f p w' (h.2.2.2.keep (hb1.trans (hb.mono hb1.size))) (hI.2.2.2.keep (hb1.trans (hb.mono hb1.size))) (hP.2.2.2.keep (hb1.trans (hb.mono hb1.size))) hok hkx hkc hkpx)
  clear hB1 hb1 hW1 h hI hP hmx hkx hkpx hkc
  go_enter Try.func4, Try.ntmps4
  go_wp2_with fail
  rw [HWW.out]
  refine HOf.out.mono ?_
  rintro e w2 ⟨A2, c2, rfl, hO2, hb2⟩
  have hR2 : Recs 3 w2 A2 (min m 18) F := by
    obtain ⟨A3, c3, e, -, hR, -⟩ := hO2.form
    injection e with e1 e2 e3
    subst e1
    exact hR
  have HR2 := Lib.hid hR2
  have HB2 := Lib.hid hb2
  clear hO2 hb2 hR2 HOf HWW
  go_wp2_with fail
  refine (HLf.out w2 HB2.out).mono ?_
  rintro e w3 ⟨v3, rfl, hO3, hb3⟩
  obtain ⟨A3, c3, rfl, -, hI3, -, hk3⟩ := hO3.form
  rw [lst_len] at hI3 hk3 ⊢
  have HI3 := Lib.hid (hI3.congr (g := f) (fun b hb => lst_getD _ _ _ hb))
  have HB3 := Lib.hid (HB2.out.trans (hb3.mono HB2.out.size))
  have HR3 := Lib.hid (HR2.out.keep hb3)
  clear hO3 hI3 hb3
  go_wp2_with fail
  refine (HLp.out w3 HB3.out).mono ?_
  rintro e w4 ⟨v4, rfl, hO4, hb4⟩
  obtain ⟨A4, c4, rfl, -, hI4, -, -⟩ := hO4.form
  rw [lst_len] at hI4 ⊢
  have HI4 := Lib.hid (hI4.congr (g := p) (fun b hb => lst_getD _ _ _ hb))
  have HB4 := Lib.hid (HB3.out.trans (hb4.mono HB3.out.size))
  have HR4 := Lib.hid (HR3.out.keep hb4)
  have HF4 := Lib.hid (HI3.out.keep hb4)
  clear hO4 hI4 hb4
  cases hok : okM N m F with
  | false =>
    have HP := Lib.hid (CheckWay_bad A2 A3 A4 (min m 18) c2 (min k 18) c3 (min kp 18) c4 N F w4 HR4.out (by omega) (by rw [okM_min]; exact hok))
    rw [hok] at HVa
    clear hok hk3
    go_wp2_with fail
    refine HP.out.use fun w5 hb5 => ?_
    have HB5 := Lib.hid (HB4.out.trans (hb5.mono HB4.out.size))
    have q0 := (HMB.out _ HB5.out).1.c0
    have q1 := (HMB.out _ HB5.out).1.c1
    clear hb5
    go_wp2_with fail
    refine (HVa.out _ HB5.out).use fun w6 hb6 => ?_
    have HB6 := Lib.hid (HB5.out.trans (hb6.mono HB5.out.size))
    clear hb6 q0 q1
    go_wp2_with fail
    refine (awake_any w6).use fun w9 hb9 => ?_
    have HB9 := Lib.hid (HB6.out.trans (hb9.mono HB6.out.size))
    clear hb9
    go_wp2
    go_ret
    exact ⟨rfl, (HMB.out _ HB9.out).2⟩
  | true =>
    obtain ⟨n, hn⟩ : ∃ n : Nat, N = n := ⟨N.toNat, by have := (okM_iff.1 hok).1; omega⟩
    have HSh2 := Lib.hid (HSh.out n hn hok)
    subst hn
    have hok' : okM n (min m 18) F = true := by rw [okM_min]; exact hok
    have HP := Lib.hid (CheckWay_ok A2 A3 A4 (min m 18) c2 n (min k 18) c3 (min kp 18) c4 F f p w4 HR4.out HF4.out HI4.out hok' (by omega) hk3 (by omega))
    have hmm : min m 18 = m := by have := (okM_iff.1 hok).2.1; omega
    have e1 : shB n (min m 18) F f (min k 18) p (min kp 18) = shR n m F f k p kp := by
      rw [hmm]
      exact shR_eq hok
    rw [e1] at HP
    rw [hok] at HVa
    generalize shR n m F f k p kp = SH at *
    clear hok hok' hmm e1 hk3 HSh
    go_wp2_with fail
    refine HP.out.use fun w5 hb5 => ?_
    have HB5 := Lib.hid (HB4.out.trans (hb5.mono HB4.out.size))
    have q0 := (HMB.out _ HB5.out).1.c0
    have q1 := (HMB.out _ HB5.out).1.c1
    clear hb5
    go_wp2_with fail
    refine (HVa.out _ HB5.out).use fun w6 hb6 => ?_
    have HB6 := Lib.hid (HB5.out.trans (hb6.mono HB5.out.size))
    clear hb6 q0 q1
    have q0 := (HMB.out _ HB6.out).1.c0
    have q1 := (HMB.out _ HB6.out).1.c1
    go_wp2_with fail
    refine (HSh2.out _ HB6.out).use fun w7 hb7 => ?_
    have HB7 := Lib.hid (HB6.out.trans (hb7.mono HB6.out.size))
    clear hb7 q0 q1
    have hq : (SH == SH) = true := by cases SH <;> rfl
    go_wp2_with fail
    refine (awake_any w7).use fun w9 hb9 => ?_
    have HB9 := Lib.hid (HB7.out.trans (hb9.mono HB7.out.size))
    clear hb9
    go_wp2
    go_ret
    exact ⟨rfl, (HMB.out _ HB9.out).2⟩
end Go.Proofs.Ytclhamemlpbpiaa
