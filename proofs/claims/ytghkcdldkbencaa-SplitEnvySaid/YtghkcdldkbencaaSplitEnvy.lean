import Derived.Test.YtghkcdldkbencaaRef4
namespace Go.Proofs.Ytghkcdldkbencaa
open Go.RowKit

theorem OwnP.form' {w : World} {base : Nat} {v : Value} {xs : List (Int × Int)} (h : OwnP w base v xs) : ∃ A c, v = .slice A xs.length c := by
  rcases h.2 with ⟨rfl, hn⟩ | ⟨g, cap, cur, rfl, _⟩
  · exact ⟨none, 0, by rw [hn]⟩
  · exact ⟨_, _, rfl⟩
theorem OwnP.keep {w w' : World} {base : Nat} {v : Value} {xs : List (Int × Int)} (h : OwnP w base v xs) (hb : Below w.heap.size w w') : OwnP w' base v xs := ownsRow_below h hb
theorem OwnP.rebase {w : World} {base base' : Nat} {v : Value} {xs : List (Int × Int)} (h : OwnP w base v xs) (hb : base' ≤ base) : OwnP w base' v xs := by
  refine ⟨h.1, ?_⟩
  rcases h.2 with hn | ⟨g, cap, cur, e, hg, r⟩
  · exact .inl hn
  · exact .inr ⟨g, cap, cur, e, by omega, r⟩
theorem short9' (n : Nat) (L : Nat → Nat) : Short n (fun i => min (L i) 9) := fun _ _ => Nat.min_le_right _ _

set_option maxHeartbeats 2000000 in
set_option maxRecDepth 1000000 in
theorem splitEnvy_bad (A : Option Addr) (n c : Nat) (L : Nat → Nat) (v : Nat → Nat → Int) (D : Option Addr) (nd cd : Nat) (d : Nat → Int) (kind : Int) (W : World) (hv : ArgR W A n c L v) (hd : ArgI W D nd cd d) (hok : okDiv n L v nd d = false) :
    Calls Try.prog 3 #[.slice A n c, .slice D nd cd, .int .i64 kind] W fun e W' => e = .returned (.bool true) ∧ Below W.heap.size W W' := by
  have hn9 : min n 6 ≤ 9 := by omega
  have hd9 : min nd 9 ≤ 9 := by omega
  have HO := Lib.hid hok
  have HO2 : Hid (okDiv (min n 6) (fun i => min (L i) 9) v (min nd 9) d = false) := Lib.hid (okDiv_few.trans hok)
  clear hok
  go_enter Try.func3, Try.ntmps3
  go_wp2_with fail
  refine (few_any A n c L v _ hv).mono ?_
  rintro e w1 ⟨x, rfl, hx, hb1⟩
  obtain ⟨A1, c1, rfl, hR1, -⟩ := hx.rows
  have Hb1 := Lib.hid hb1
  clear hb1 hx
  go_wp2_with fail
  refine (list_any D nd cd d _ (hd.below Hb1.out)).mono ?_
  rintro e w2 ⟨y, rfl, hy, hb2⟩
  obtain ⟨D2, c2, rfl, hI2⟩ := hy.sl0
  have Hb2 := Lib.hid (Hb1.out.trans (hb2.mono Hb1.out.size))
  have HR2 := Lib.hid (hR1.keep hb2)
  clear hb2 hy hR1
  go_wp2_with fail
  refine Ro.use (Envy_bad _ _ _ _ _ _ _ v d _ HR2.out hI2 hn9 (short9' _ _) hd9 HO2.out) ?_
  intro w3 hD3
  have Hb3 := Lib.hid (Hb2.out.trans (hD3.below _))
  clear hD3 hI2 HR2
  go_wp2_with fail
  refine (few_any A n c L v _ (hv.below Hb3.out)).mono ?_
  rintro e w4 ⟨x, rfl, hx, hb4⟩
  obtain ⟨A4, c4, rfl, hR4, -⟩ := hx.rows
  have Hb4 := Lib.hid (Hb3.out.trans (hb4.mono Hb3.out.size))
  clear hb4 hx
  go_wp2_with fail
  refine (list_any D nd cd d _ (hd.below Hb4.out)).mono ?_
  rintro e w5 ⟨y, rfl, hy, hb5⟩
  obtain ⟨D5, c5, rfl, hI5⟩ := hy.sl0
  have Hb5 := Lib.hid (Hb4.out.trans (hb5.mono Hb4.out.size))
  have HR5 := Lib.hid (hR4.keep hb5)
  clear hb5 hy hR4
  go_wp2_with fail
  refine Ro.use (Fair_bad _ _ _ _ _ _ _ v d kind _ HR5.out hI5 hn9 (short9' _ _) hd9 (.inl HO2.out)) ?_
  intro w6 hD6
  have Hb6 := Lib.hid (Hb5.out.trans (hD6.below _))
  clear hD6 hI5 HR5
  go_wp2_with fail
  refine (divided_any _ _ _ _ _ _ L v d _ (hv.below Hb6.out) (hd.below Hb6.out)).mono ?_
  rintro e w' ⟨rfl, rfl⟩
  rw [HO.out]
  go_wp2_with fail
  refine (awake_any _).mono ?_
  rintro e w7 ⟨rfl, hb7⟩
  have Hb7 := Lib.hid (Hb6.out.trans (hb7.mono Hb6.out.size))
  clear hb7
  go_wp2
  go_ret
  exact ⟨rfl, Hb7.out⟩

set_option maxHeartbeats 4000000 in
set_option maxRecDepth 1000000 in
theorem splitEnvy_good (A : Option Addr) (n c : Nat) (L : Nat → Nat) (v : Nat → Nat → Int) (D : Option Addr) (nd cd : Nat) (d : Nat → Int) (kind : Int) (W : World) (hv : ArgR W A n c L v) (hd : ArgI W D nd cd d) (hok : okDiv n L v nd d = true) :
    Calls Try.prog 3 #[.slice A n c, .slice D nd cd, .int .i64 kind] W fun e W' => e = .returned (.bool true) ∧ Below W.heap.size W W' := by
  have hO := okDiv_of hok
  obtain ⟨h1, h2, h3, h4, h5, h6⟩ := okVals_of hO.1
  have en : min n 6 = n := by omega
  have ed : min nd 9 = nd := by have := hO.2.1; omega
  have hn9 : n ≤ 9 := by omega
  have hd9 : nd ≤ 9 := by have := hO.2.1; omega
  have HM : Hid (Mat W A n nd v) := Lib.hid (by rw [hO.2.1]; exact okVals_mat hv.rows hO.1)
  have HB : Hid (BdM n nd v 100000) := Lib.hid (by rw [hO.2.1]; exact h6.le (by omega))
  have HO := Lib.hid hok
  have HO2 : Hid (okDiv n (fun i => min (L i) 9) v nd d = true) := Lib.hid (by have := okDiv_few.trans hok; rw [en, ed] at this; exact this)
  have HE := Lib.hid en
  have HEd := Lib.hid ed
  clear hok hO h3 h4 h5 h6 en ed
  go_enter Try.func3, Try.ntmps3
  go_wp2_with fail
  refine (few_any A n c L v _ hv).mono ?_
  rintro e w1 ⟨x, rfl, hx, hb1⟩
  rw [HE.out] at hx
  obtain ⟨A1, c1, rfl, hR1, -⟩ := hx.rows
  have Hb1 := Lib.hid hb1
  clear hb1 hx
  go_wp2_with fail
  refine (list_any D nd cd d _ (hd.below Hb1.out)).mono ?_
  rintro e w2 ⟨y, rfl, hy, hb2⟩
  rw [HEd.out] at hy
  obtain ⟨D2, c2, rfl, hI2⟩ := hy.sl0
  have Hb2 := Lib.hid (Hb1.out.trans (hb2.mono Hb1.out.size))
  have HR2 := Lib.hid (hR1.keep hb2)
  clear hb2 hy hR1
  go_wp2_with fail
  refine (Envy_ok _ _ _ _ _ _ _ v d _ HR2.out hI2 hn9 (short9' _ _) hd9 HO2.out).mono ?_
  rintro e w3 ⟨x, rfl, hx, hb3⟩
  obtain ⟨A3, c3, rfl⟩ := hx.form'
  have Hb3 := Lib.hid (Hb2.out.trans (hb3.mono Hb2.out.size))
  have HX3 := Lib.hid (hx.rebase Hb2.out.size)
  clear hb3 hx hI2 HR2
  go_wp2_with fail
  refine (few_any A n c L v _ (hv.below Hb3.out)).mono ?_
  rintro e w4 ⟨x, rfl, hx, hb4⟩
  rw [HE.out] at hx
  obtain ⟨A4, c4, rfl, hR4, -⟩ := hx.rows
  have Hb4 := Lib.hid (Hb3.out.trans (hb4.mono Hb3.out.size))
  have HX4 := Lib.hid (HX3.out.keep hb4)
  clear hb4 hx
  go_wp2_with fail
  refine (list_any D nd cd d _ (hd.below Hb4.out)).mono ?_
  rintro e w5 ⟨y, rfl, hy, hb5⟩
  rw [HEd.out] at hy
  obtain ⟨D5, c5, rfl, hI5⟩ := hy.sl0
  have Hb5 := Lib.hid (Hb4.out.trans (hb5.mono Hb4.out.size))
  have HR5 := Lib.hid (hR4.keep hb5)
  have HX5 := Lib.hid (HX4.out.keep hb5)
  clear hb5 hy hR4
  go_wp2_with fail
  obtain ⟨fb, fe, hF, hfk⟩ : ∃ (fb : Bool) (fe : Int), Ro 18 #[.slice A4 n c4, .slice D5 nd c5, .int .i64 kind] w5 (.tuple #[.bool fb, .int .i64 fe]) ∧ ((0 ≤ kind ∧ kind ≤ 4 ∧ fb = fairAll n nd v d kind ∧ fe = 0) ∨ ((kind < 0 ∨ 4 < kind) ∧ fb = false ∧ fe = 2)) := by
    by_cases hk : 0 ≤ kind ∧ kind ≤ 4
    · exact ⟨_, _, Fair_ok _ _ _ _ _ _ _ v d kind _ HR5.out hI5 hn9 (short9' _ _) hd9 HO2.out hk.1 hk.2, .inl ⟨hk.1, hk.2, rfl, rfl⟩⟩
    · exact ⟨_, _, Fair_bad _ _ _ _ _ _ _ v d kind _ HR5.out hI5 hn9 (short9' _ _) hd9 (.inr (by omega)), .inr ⟨by omega, rfl, rfl⟩⟩
  have HFK := Lib.hid hfk
  refine Ro.use hF ?_
  intro w6 hD6
  have Hb6 := Lib.hid (Hb5.out.trans (hD6.below _))
  have HX6 := Lib.hid (HX5.out.keep (hD6.below _))
  clear hD6 hI5 HR5 hF hfk
  go_wp2_with fail
  refine (divided_any _ _ _ _ _ _ L v d _ (hv.below Hb6.out) (hd.below Hb6.out)).mono ?_
  rintro e w' ⟨rfl, rfl⟩
  rw [HO.out]
  go_wp2_with fail
  refine (renvy_any _ _ n nd _ _ v d _ (HM.out.keep Hb6.out) (hd.2.2.2.keep Hb6.out) HB.out hd9 hn9).mono ?_
  rintro e w7 ⟨y, rfl, hy, hb7⟩
  have Hb7 := Lib.hid (Hb6.out.trans (hb7.mono Hb6.out.size))
  have HX7 := Lib.hid (HX6.out.keep hb7)
  have HY7 := Lib.hid (hy.rebase Hb6.out.size)
  have hlen : (envAll n nd v d n).length ≤ 10000 := by
    have e1 := envAll_len n nd v d n
    have e3 : n * n ≤ 9 * 9 := Nat.mul_le_mul (by omega) (by omega)
    omega
  have HL := Lib.hid hlen
  clear hb7 hy hlen
  go_wp2_with fail
  refine Ro.use (equalP_same W.heap.size _ _ _ _ HX7.out HY7.out HL.out) ?_
  intro w8 hD8
  have Hb8 := Lib.hid (Hb7.out.trans (hD8.below _))
  clear hD8
  go_wp2_with fail
  refine (awake_any _).mono ?_
  rintro e w9 ⟨rfl, hb9⟩
  have Hb9 := Lib.hid (Hb8.out.trans (hb9.mono Hb8.out.size))
  clear hb9
  rcases HFK.out with ⟨k0, k4, rfl, rfl⟩ | ⟨hk, rfl, rfl⟩
  · have hbb : (fairAll n nd v d kind == fairAll n nd v d kind) = true := by simp
    by_cases k3 : kind < 3
    · go_wp2_with fail
      refine Ro.use (rfair_low _ _ n nd _ _ v d kind _ (HM.out.keep Hb9.out) (hd.2.2.2.keep Hb9.out) HB.out hd9 hn9 k0 k3) ?_
      intro w10 hD10
      have Hb10 := Lib.hid (Hb9.out.trans (hD10.below _))
      clear hD10
      go_wp2
      go_ret
      exact ⟨rfl, Hb10.out⟩
    · go_wp2_with fail
      refine Ro.use (rfair_high _ _ n nd _ _ v d kind _ (HM.out.keep Hb9.out) (hd.2.2.2.keep Hb9.out) HB.out hd9 hn9 (by omega)) ?_
      intro w10 hD10
      have Hb10 := Lib.hid (Hb9.out.trans (hD10.below _))
      clear hD10
      go_wp2
      go_ret
      exact ⟨rfl, Hb10.out⟩
  · rcases hk with hk | hk
    · go_wp2
      go_ret
      exact ⟨rfl, Hb9.out⟩
    · go_wp2
      go_ret
      exact ⟨rfl, Hb9.out⟩

theorem splitEnvy_walk (A : Option Addr) (n c : Nat) (L : Nat → Nat) (v : Nat → Nat → Int) (D : Option Addr) (nd cd : Nat) (d : Nat → Int) (kind : Int) (W : World) (hv : ArgR W A n c L v) (hd : ArgI W D nd cd d) (_hk : (Lit.int .i64 kind).wf = true) :
    Calls Try.prog 3 #[.slice A n c, .slice D nd cd, .int .i64 kind] W fun e W' => e = .returned (.bool true) ∧ Below W.heap.size W W' := by
  cases hok : okDiv n L v nd d with
  | false => exact splitEnvy_bad A n c L v D nd cd d kind W hv hd hok
  | true => exact splitEnvy_good A n c L v D nd cd d kind W hv hd hok
end Go.Proofs.Ytghkcdldkbencaa
