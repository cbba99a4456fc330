import Derived.Test.YtghkcdldkbencaaKM
import Derived.Test.YtghkcdldkbencaaAwake
import Derived.Test.YtghkcdldkbencaaFew
namespace Go.Proofs.Ytghkcdldkbencaa
open Go.RowKit

theorem OwnP.form {w : World} {base : Nat} {v : Value} {xs : List (Int × Int)} (h : OwnP w base v xs) : ∃ A c, v = .slice A xs.length c := by
  rcases h.2 with ⟨rfl, hn⟩ | ⟨g, cap, cur, rfl, _⟩
  · exact ⟨none, 0, by rw [hn]⟩
  · exact ⟨_, _, rfl⟩
theorem short9 (n : Nat) (L : Nat → Nat) : Short n (fun i => min (L i) 9) := fun _ _ => Nat.min_le_right _ _

/-- The array of five bools, the first k of which hold fairAll. -/
def fiveB (n m : Nat) (v : Nat → Nat → Int) (d : Nat → Int) (k : Nat) : Nat → Value := fun j => .bool (if j < k then fairAll n m v d j else false)
/-- Of the eight ways in which the five may come out. -/
def KindsOk (b0 b1 b2 b3 b4 : Bool) : Bool := (!b0 || (b2 && b3)) && (!b2 || b1) && (!b1 || b4) && (!b3 || b4)
theorem kinds_ok {n m : Nat} {v : Nat → Nat → Int} {d : Nat → Int} {u : Int} (hn : 1 ≤ n) (hO : Own n m d) (hb : BdM n m v u) :
    KindsOk (fairAll n m v d 0) (fairAll n m v d 1) (fairAll n m v d 2) (fairAll n m v d 3) (fairAll n m v d 4) = true := by
  have e1 := kind0_2 (n := n) (m := m) (v := v) (d := d)
  have e2 := kind0_3 (v := v) hO
  have e3 := kind2_1 (d := d) hb
  have e4 := kind1_4 hn hO hb
  have e5 := kind3_4 (n := n) (m := m) (v := v) (d := d)
  revert e1 e2 e3 e4 e5
  generalize fairAll n m v d 0 = b0
  generalize fairAll n m v d 1 = b1
  generalize fairAll n m v d 2 = b2
  generalize fairAll n m v d 3 = b3
  generalize fairAll n m v d 4 = b4
  revert b0 b1 b2 b3 b4
  decide

set_option maxHeartbeats 2000000 in
set_option maxRecDepth 1000000 in
theorem splitKinds_walk (A : Option Addr) (n c : Nat) (L : Nat → Nat) (v : Nat → Nat → Int) (D : Option Addr) (nd cd : Nat) (d : Nat → Int) (W : World) (hv : ArgR W A n c L v) (hd : ArgI W D nd cd d) :
    Calls Try.prog 9 #[.slice A n c, .slice D nd cd] W fun e W' => e = .returned (.bool true) ∧ Below W.heap.size W W' := by
  have hn9 : min n 6 ≤ 9 := by omega
  have hd9 : min nd 9 ≤ 9 := by omega
  cases hok : okDiv (min n 6) (fun i => min (L i) 9) v (min nd 9) d with
  | false =>
    have HO := Lib.hid hok
    clear hok
    go_enter Try.func9, Try.ntmps9
    go_wp2_with fail
    refine wp_loop_rounds 1 ?_
    rw [rounds_succ]
    go_wp2_with fail
    have hb0 := (Below.refl W.heap.size W).alloc (Nat.le_refl _) (.cells #[.bool false, .bool false, .bool false, .bool false, .bool false] 54)
    refine (few_any A n c L v _ (hv.below hb0)).mono ?_
    rintro e w1 ⟨x, rfl, hx, hb1⟩
    obtain ⟨A1, c1, rfl, hR1, -⟩ := hx.rows
    have hs1 := hb1.size
    simp only [World.size_alloc] at hs1
    have hbA : Below W.heap.size W w1 := hb0.trans (hb1.mono (by simp))
    have HbA := Lib.hid hbA
    clear hb0 hb1 hx hbA
    go_wp2_with fail
    refine (list_any D nd cd d _ (hd.below HbA.out)).mono ?_
    rintro e w2 ⟨y, rfl, hy, hb2⟩
    obtain ⟨D2, c2, rfl, hI2⟩ := hy.sl0
    have HbB := Lib.hid (HbA.out.trans (hb2.mono HbA.out.size))
    have HR2 := Lib.hid (hR1.keep hb2)
    clear hb2 hy hR1
    go_wp2_with fail
    refine Ro.use (Fair_bad _ _ _ _ _ _ _ v d 0 _ HR2.out hI2 hn9 (short9 _ _) hd9 (.inl HO.out)) ?_
    intro w3 hD
    go_wp2_with fail
    refine (awake_any _).mono ?_
    rintro e w4 ⟨rfl, hb4⟩
    have HbC := Lib.hid ((HbB.out.trans (hD.below _)).trans (hb4.mono (Nat.le_trans HbB.out.size (hD.below 0).size)))
    clear hb4 hD
    go_wp2
    go_ret
    exact ⟨rfl, HbC.out⟩
  | true =>
    have hO := okDiv_of hok
    have hV := okVals_of hO.1
    have hBd : BdM (min n 6) (min nd 9) v 100 := by rw [hO.2.1]; exact hV.2.2.2.2.2
    have HK := Lib.hid (kinds_ok (d := d) hV.1 hO.2.2 hBd)
    have HO := Lib.hid hok
    clear hok hO hV hBd
    have hb0 := (Below.refl W.heap.size W).alloc (Nat.le_refl _) (.cells #[.bool false, .bool false, .bool false, .bool false, .bool false] 54)
    have hrow : (W.alloc (.cells #[.bool false, .bool false, .bool false, .bool false, .bool false] 54)).rowIs W.heap.size 54 5 (fiveB (min n 6) (min nd 9) v d 0) := World.rowIs_alloc _ _ _ _ (fun i hi => by
      have : i = 0 ∨ i = 1 ∨ i = 2 ∨ i = 3 ∨ i = 4 := by simp at hi; omega
      rcases this with rfl | rfl | rfl | rfl | rfl <;> simp [fiveB])
    have HB0 := Lib.hid hb0
    have HRow := Lib.hid hrow
    clear hb0 hrow
    go_enter Try.func9, Try.ntmps9
    go_wp2_with fail
    go_loopw [11] (fun i wr => ∃ k : Nat, k ≤ 5 ∧ i = .int .i64 k ∧ wr.rowIs W.heap.size 54 5 (fiveB (min n 6) (min nd 9) v d k) ∧ Below W.heap.size W wr) (fun i _ => 5 - (intOf i).toNat)
    case atStart => exact ⟨0, by omega, rfl, HRow.out, HB0.out⟩
    case round =>
      obtain ⟨k, hk, rfl, hrow, hbel⟩ := hrel
      have HR := Lib.hid hrow
      have HB := Lib.hid hbel
      have hsz := World.rowIs.lt hrow
      clear hrow hbel
      by_cases hlt : k < 5
      · go_wp2_with fail
        refine (few_any A n c L v _ (hv.below HB.out)).mono ?_
        rintro e w1 ⟨x, rfl, hx, hb1⟩
        obtain ⟨A1, c1, rfl, hR1, -⟩ := hx.rows
        have HbA := Lib.hid (HB.out.trans (hb1.mono HB.out.size))
        have Hb1 := Lib.hid hb1
        clear hb1 hx
        go_wp2_with fail
        refine (list_any D nd cd d _ (hd.below HbA.out)).mono ?_
        rintro e w2 ⟨y, rfl, hy, hb2⟩
        obtain ⟨D2, c2, rfl, hI2⟩ := hy.sl0
        have HbB := Lib.hid (HbA.out.trans (hb2.mono HbA.out.size))
        have Hb2 := Lib.hid (Hb1.out.trans (hb2.mono Hb1.out.size))
        have HR2 := Lib.hid (hR1.keep hb2)
        clear hb2 hy hR1
        go_wp2_with fail
        refine Ro.use (Fair_ok _ _ _ _ _ _ _ v d k _ HR2.out hI2 hn9 (short9 _ _) hd9 HO.out (by omega) (by omega)) ?_
        intro w3 hD
        have hrow3 : w3.rowIs W.heap.size 54 5 (fiveB (min n 6) (min nd 9) v d k) := by
          obtain ⟨q, rfl⟩ := hD
          exact World.rowIs.of_block HR.out (Hb2.out.block _ hsz)
        have HbC := Lib.hid (HbB.out.trans (hD.below _))
        have hc3 := hrow3.cell hlt
        have hf3 := hrow3.frozen k
        have HR3 := Lib.hid hrow3
        have hfA : allB (fairToB (min n 6) (min nd 9) v d k) (min n 6) = fairAll (min n 6) (min nd 9) v d k := rfl
        rw [hfA]
        clear hD hrow3 hfA
        go_wp2
        go_roundw
        case rel =>
          refine ⟨k + 1, by omega, by go_num, World.rowIs.congr (World.rowIs.set HR3.out k _) (fun j hj => ?_), HbC.out.setCell (Nat.le_refl _) _⟩
          by_cases e : j = k
          · subst e
            simp [fiveB]
          · simp only [fiveB, e, if_false]
            by_cases e2 : j < k
            · rw [if_pos e2, if_pos (by omega)]
            · rw [if_neg e2, if_neg (by omega)]
        case measure => simp [intOf]; omega
      · obtain rfl : k = 5 := by omega
        go_wp2_with fail
        refine (few_any A n c L v _ (hv.below HB.out)).mono ?_
        rintro e w1 ⟨x, rfl, hx, hb1⟩
        obtain ⟨A1, c1, rfl, hR1, -⟩ := hx.rows
        have HbA := Lib.hid (HB.out.trans (hb1.mono HB.out.size))
        have Hb1 := Lib.hid hb1
        clear hb1 hx
        go_wp2_with fail
        refine (list_any D nd cd d _ (hd.below HbA.out)).mono ?_
        rintro e w2 ⟨y, rfl, hy, hb2⟩
        obtain ⟨D2, c2, rfl, hI2⟩ := hy.sl0
        have HbB := Lib.hid (HbA.out.trans (hb2.mono HbA.out.size))
        have Hb2 := Lib.hid (Hb1.out.trans (hb2.mono Hb1.out.size))
        have HR2 := Lib.hid (hR1.keep hb2)
        clear hb2 hy hR1
        go_wp2_with fail
        refine (Envy_ok _ _ _ _ _ _ _ v d _ HR2.out hI2 hn9 (short9 _ _) hd9 HO.out).mono ?_
        rintro e w3 ⟨x, rfl, hx, hb3⟩
        obtain ⟨A3, c3, rfl⟩ := hx.form
        have HbC := Lib.hid (HbB.out.trans (hb3.mono HbB.out.size))
        have hrow3 : w3.rowIs W.heap.size 54 5 (fiveB (min n 6) (min nd 9) v d 5) := World.rowIs.of_block HR.out ((hb3.block _ (Nat.lt_of_lt_of_le hsz Hb2.out.size)).trans (Hb2.out.block _ hsz))
        have k0 := kind0 (n := min n 6) (m := min nd 9) (v := v) (d := d)
        have hK := HK.out
        have h0 := hrow3.cell (i := 0) (by omega)
        have h1 := hrow3.cell (i := 1) (by omega)
        have h2 := hrow3.cell (i := 2) (by omega)
        have h3 := hrow3.cell (i := 3) (by omega)
        have h4 := hrow3.cell (i := 4) (by omega)
        simp only [fiveB] at h0 h1 h2 h3 h4
        rw [if_pos (by omega)] at h0 h1 h2 h3 h4
        simp only [Int.cast_ofNat_Int] at h0 h1 h2 h3 h4
        have hB : (((envAll (min n 6) (min nd 9) v d (min n 6)).length : Int) == 0) = fairAll (min n 6) (min nd 9) v d 0 := by
          rw [Bool.eq_iff_iff, k0]
          simp
        generalize (envAll (min n 6) (min nd 9) v d (min n 6)).length = len at *
        generalize fairAll (min n 6) (min nd 9) v d 0 = b0 at *
        generalize fairAll (min n 6) (min nd 9) v d 1 = b1 at *
        generalize fairAll (min n 6) (min nd 9) v d 2 = b2 at *
        generalize fairAll (min n 6) (min nd 9) v d 3 = b3 at *
        generalize fairAll (min n 6) (min nd 9) v d 4 = b4 at *
        clear k0 HK HR HR2 hrow3 hx hb3 hI2
        cases b0 <;> cases b1 <;> cases b2 <;> cases b3 <;> cases b4 <;> first
          | exact absurd hK (by decide)
          | (clear hK
             go_wp2_with fail
             refine (awake_any _).mono ?_
             rintro e w4 ⟨rfl, hb4⟩
             have HbD := Lib.hid (HbC.out.trans (hb4.mono HbC.out.size))
             clear hb4
             go_wp2
             go_ret
             exact ⟨rfl, HbD.out⟩)
end Go.Proofs.Ytghkcdldkbencaa
