import Derived.Test.YtghkcdldkbencaaBet
import Derived.Test.YtghkcdldkbencaaBetR
import Derived.Test.YtghkcdldkbencaaRef4
namespace Go.Proofs.Ytghkcdldkbencaa
open Go.RowKit

set_option maxHeartbeats 2000000 in
set_option maxRecDepth 1000000 in
theorem splitBetter_bad (A : Option Addr) (n c : Nat) (L : Nat → Nat) (v : Nat → Nat → Int) (D : Option Addr) (nd cd : Nat) (d : Nat → Int) (W : World) (hv : ArgR W A n c L v) (hd : ArgI W D nd cd d) (hok : okDiv n L v nd d = false) :
    Calls Try.prog 7 #[.slice A n c, .slice D nd cd] W fun e W' => e = .returned (.bool true) ∧ Below W.heap.size W W' := by
  have hn9 : min n 6 ≤ 9 := by omega
  have hd9 : min nd 9 ≤ 9 := by omega
  have HO := Lib.hid hok
  have HO2 : Hid (okDiv (min n 6) (fun i => min (L i) 9) v (min nd 9) d = false) := Lib.hid (okDiv_few.trans hok)
  clear hok
  go_enter Try.func7, Try.ntmps7
  go_wp2_with fail
  refine (few_any A n c L v _ hv).mono ?_
  rintro e w1 ⟨x, rfl, hx, hb1⟩
  obtain ⟨A1, c1, rfl, hR1, -⟩ := hx.rows
  have Hb1 := Lib.hid hb1
  clear hb1 hx
  go_wp2_with fail
  refine (list_any D nd cd d _ (hd.below Hb1.out)).mono ?_
  rintro e w2 ⟨y, rfl, hy, hb2⟩
  obtain ⟨D2, c2, rfl, hI2⟩ := hy.sl0
  have Hb2 := Lib.hid (Hb1.out.trans (hb2.mono Hb1.out.size))
  have HR2 := Lib.hid (hR1.keep hb2)
  clear hb2 hy hR1
  go_wp2_with fail
  refine (Better_bad _ _ _ _ _ _ _ v d _ HR2.out hI2 hn9 (fun _ _ => Nat.min_le_right _ _) hd9 HO2.out).mono ?_
  rintro e w3 ⟨rfl, hb3⟩
  have Hb3 := Lib.hid (Hb2.out.trans (hb3.mono Hb2.out.size))
  clear hb3 hI2 HR2
  go_wp2_with fail
  refine (divided_any _ _ _ _ _ _ L v d _ (hv.below Hb3.out) (hd.below Hb3.out)).mono ?_
  rintro e w' ⟨rfl, rfl⟩
  rw [HO.out]
  go_wp2_with fail
  refine (awake_any _).mono ?_
  rintro e w7 ⟨rfl, hb7⟩
  have Hb7 := Lib.hid (Hb3.out.trans (hb7.mono Hb3.out.size))
  clear hb7
  go_wp2
  go_ret
  exact ⟨rfl, Hb7.out⟩

theorem eqB_refl (n : Nat) (f : Nat → Int) : eqB n n f f = true := by
  simp only [eqB, decide_true, Bool.true_and]
  exact allB_t (fun g _ => by simp [eqP])

set_option maxHeartbeats 4000000 in
set_option maxRecDepth 1000000 in
theorem splitBetter_good (A : Option Addr) (n c : Nat) (L : Nat → Nat) (v : Nat → Nat → Int) (D : Option Addr) (nd cd : Nat) (d : Nat → Int) (W : World) (hv : ArgR W A n c L v) (hd : ArgI W D nd cd d) (hok : okDiv n L v nd d = true) :
    Calls Try.prog 7 #[.slice A n c, .slice D nd cd] W fun e W' => e = .returned (.bool true) ∧ Below W.heap.size W W' := by
  have hO := okDiv_of hok
  obtain ⟨h1, h2, h3, h4, h5, h6⟩ := okVals_of hO.1
  have en : min n 6 = n := by omega
  have ed : min nd 9 = nd := by have := hO.2.1; omega
  have hn9 : n ≤ 9 := by omega
  have hd9 : nd ≤ 9 := by have := hO.2.1; omega
  have hd7 : nd ≤ 7 := by have := hO.2.1; omega
  have HM : Hid (Mat W A n nd v) := Lib.hid (by rw [hO.2.1]; exact okVals_mat hv.rows hO.1)
  have HB : Hid (BdM n nd v 100000) := Lib.hid (by rw [hO.2.1]; exact h6.le (by omega))
  have HO := Lib.hid hok
  have HO2 : Hid (okDiv n (fun i => min (L i) 9) v nd d = true) := Lib.hid (by have := okDiv_few.trans hok; rw [en, ed] at this; exact this)
  have HE := Lib.hid en
  have HEd := Lib.hid ed
  clear hok hO h3 h4 h5 h6 en ed
  go_enter Try.func7, Try.ntmps7
  go_wp2_with fail
  refine (few_any A n c L v _ hv).mono ?_
  rintro e w1 ⟨x, rfl, hx, hb1⟩
  rw [HE.out] at hx
  obtain ⟨A1, c1, rfl, hR1, -⟩ := hx.rows
  have Hb1 := Lib.hid hb1
  clear hb1 hx
  go_wp2_with fail
  refine (list_any D nd cd d _ (hd.below Hb1.out)).mono ?_
  rintro e w2 ⟨y, rfl, hy, hb2⟩
  rw [HEd.out] at hy
  obtain ⟨D2, c2, rfl, hI2⟩ := hy.sl0
  have Hb2 := Lib.hid (Hb1.out.trans (hb2.mono Hb1.out.size))
  have HR2 := Lib.hid (hR1.keep hb2)
  clear hb2 hy hR1
  go_wp2_with fail
  refine (Better_ok _ _ _ _ _ _ _ v d _ HR2.out hI2 hn9 (fun _ _ => Nat.min_le_right _ _) hd9 HO2.out).mono ?_
  rintro e w3 ⟨x, fe, rfl, hb3, hpost⟩
  have Hb3 := Lib.hid (Hb2.out.trans (hb3.mono Hb2.out.size))
  have HPost := Lib.hid hpost
  have hxs : ∃ ax nx cx, x = .slice ax nx cx := by
    rcases hpost with ⟨i, -, -, -, ho, -⟩ | ⟨-, rfl, -⟩
    · obtain ⟨ax, cx, e, -⟩ := ho.sl0
      exact ⟨ax, _, cx, e⟩
    · exact ⟨none, 0, 0, rfl⟩
  obtain ⟨ax, nx, cx, rfl⟩ := hxs
  clear hb3 hI2 HR2 hpost
  go_wp2_with fail
  refine (divided_any _ _ _ _ _ _ L v d _ (hv.below Hb3.out) (hd.below Hb3.out)).mono ?_
  rintro e w' ⟨rfl, rfl⟩
  rw [HO.out]
  go_wp2_with fail
  refine (rbetter_any _ _ n nd _ _ v d _ (HM.out.keep Hb3.out) (hd.2.2.2.keep Hb3.out) HB.out hd7 h1 h2).mono ?_
  rintro e w4 ⟨y, fe', rfl, hb4, hpost'⟩
  have Hb4 := Lib.hid (Hb3.out.trans (hb4.mono Hb3.out.size))
  have HPost' := Lib.hid hpost'
  have hys : ∃ ay ny cy, y = .slice ay ny cy := by
    rcases hpost' with ⟨i, -, -, -, ho, -⟩ | ⟨-, rfl, -⟩
    · obtain ⟨ax, cx, e, -⟩ := ho.sl0
      exact ⟨ax, _, cx, e⟩
    · exact ⟨none, 0, 0, rfl⟩
  obtain ⟨ay, ny, cy, rfl⟩ := hys
  have hcase : fe = fe' ∧ ∃ f g, Ints w4 ax nx f ∧ Ints w4 ay ny g ∧ nx ≤ 10000 ∧ ny ≤ 10000 ∧ eqB nx ny f g = true := by
    rcases HPost.out with ⟨i, hi, hp, hN, ho, rfl⟩ | ⟨hN, e, rfl⟩
    · rcases HPost'.out with ⟨j, hj, hp', hN', ho', rfl⟩ | ⟨hN', e', rfl⟩
      · have : i = j := by
          rcases Nat.lt_trichotomy i j with h | h | h
          · have := hN' i h
            rw [show betP n nd v d i = betP' n nd v d i from rfl, hp] at this
            cases this
          · exact h
          · have := hN j h
            rw [show betP' n nd v d j = betP n nd v d j from rfl, hp'] at this
            cases this
        subst this
        obtain ⟨a1, c1, e1, hI1⟩ := ho.sl0
        obtain ⟨a2, c2, e2, hI2⟩ := ho'.sl0
        injection e1 with e1 e3 e4
        injection e2 with e5 e6 e7
        subst e1 e3 e5 e6
        exact ⟨rfl, _, _, hI1.keep hb4, hI2, by omega, by omega, eqB_refl _ _⟩
      · have := hN' i hi
        rw [show betP n nd v d i = betP' n nd v d i from rfl, hp] at this
        cases this
    · rcases HPost'.out with ⟨j, hj, hp', hN', ho', rfl⟩ | ⟨hN', e', rfl⟩
      · have := hN j hj
        rw [show betP' n nd v d j = betP n nd v d j from rfl, hp'] at this
        cases this
      · injection e with e1 e3 e4
        injection e' with e5 e6 e7
        subst e1 e3 e5 e6
        exact ⟨rfl, fun _ => 0, fun _ => 0, Ints.zero, Ints.zero, by omega, by omega, eqB_refl _ _⟩
  obtain ⟨rfl, f, g, hF, hG, hnx, hny, hEq⟩ := hcase
  have HEq := Lib.hid hEq
  have HF := Lib.hid hF
  have HG := Lib.hid hG
  have hfe := beq_t (a := fe) rfl
  clear hb4 hpost' hEq hF hG
  go_wp2_with fail
  refine Ro.use (equal_any _ _ nx ny _ _ f g _ HF.out HG.out hnx hny) ?_
  intro w5 hD5
  have Hb5 := Lib.hid (Hb4.out.trans (hD5.below _))
  rw [HEq.out]
  clear hD5
  go_wp2_with fail
  refine (awake_any _).mono ?_
  rintro e w9 ⟨rfl, hb9⟩
  have Hb9 := Lib.hid (Hb5.out.trans (hb9.mono Hb5.out.size))
  clear hb9
  go_wp2
  go_ret
  exact ⟨rfl, Hb9.out⟩

theorem splitBetter_walk (A : Option Addr) (n c : Nat) (L : Nat → Nat) (v : Nat → Nat → Int) (D : Option Addr) (nd cd : Nat) (d : Nat → Int) (W : World) (hv : ArgR W A n c L v) (hd : ArgI W D nd cd d) :
    Calls Try.prog 7 #[.slice A n c, .slice D nd cd] W fun e W' => e = .returned (.bool true) ∧ Below W.heap.size W W' := by
  cases hok : okDiv n L v nd d with
  | false => exact splitBetter_bad A n c L v D nd cd d W hv hd hok
  | true => exact splitBetter_good A n c L v D nd cd d W hv hd hok
end Go.Proofs.Ytghkcdldkbencaa
