import Derived.Test.YtghkcdldkbencabTwoM
import Derived.Test.YtghkcdldkbencabAwake
import Derived.Test.YtghkcdldkbencabRef1
import Derived.Test.YtghkcdldkbencabShift
import Derived.Test.YtghkcdldkbencabOkFew
namespace Go.Proofs.Ytghkcdldkbencab
open Go.RowKit

def twoP (m : Nat) (v : Nat → Nat → Int) (s : Nat) : Bool := fairAll 2 m v (bitF s) 2
theorem bitF_own (s m : Nat) : Own 2 m (bitF s) := fun g _ => by
  unfold bitF
  have := Nat.mod_lt (s / 2 ^ g) (show 0 < 2 by omega)
  omega

set_option maxHeartbeats 4000000 in
set_option maxRecDepth 1000000 in
theorem splitTwo_walk (A : Option Addr) (n c : Nat) (L : Nat → Nat) (v : Nat → Nat → Int) (W : World) (hv : ArgR W A n c L v) :
    Calls Try.prog 3 #[.slice A n c] W fun e W' => e = .returned (.bool true) ∧ Below W.heap.size W W' := by
  by_cases h2 : n = 2
  · subst h2
    have hB := bne_f (a := ((2 : Nat) : Int)) (b := 2) rfl
    cases hok : okVals 2 L v with
    | false =>
      have HO := Lib.hid hok
      clear hok
      go_enter Try.func3, Try.ntmps3
      go_wp2_with fail
      refine (rvalid_any _ _ _ _ _ _ hv).mono ?_
      rintro e w' ⟨rfl, rfl⟩
      rw [HO.out]
      go_wp2_with fail
      refine (awake_any _).mono ?_
      rintro e w4 ⟨rfl, hb4⟩
      have Hb4 := Lib.hid hb4
      clear hb4
      go_wp2
      go_ret
      exact ⟨rfl, Hb4.out⟩
    | true =>
      obtain ⟨h1, h2', h3, h4, h5, h6⟩ := okVals_of hok
      obtain ⟨b, o, R, cR, rfl, -, -⟩ := hv.rows.at (i := 0) (by omega)
      obtain ⟨R0, c0, hc0, -⟩ := hv.rows.cell0 (by omega)
      obtain ⟨m, hm⟩ : ∃ m, m = L 0 := ⟨_, rfl⟩
      rw [← hm] at h3 h4 hc0
      have HB6 : Hid (BdM 2 m v 100) := Lib.hid (by rw [hm]; exact h6)
      have HO := Lib.hid hok
      have HMm : Hid (m = min (L 0) 9) := Lib.hid (by omega)
      have HO2 : Hid (∀ s, okDiv (min 2 6) (fun i => min (L i) 9) v m (bitF s) = true) := Lib.hid (fun s => by
        simp only [okDiv, Bool.and_eq_true, decide_eq_true_eq]
        exact ⟨okVals_few.trans hok, HMm.out, bitF_own s m⟩)
      have hmk := mk_ints m (by omega)
      have hM : 2 ^ m ≤ 128 := by
        have : 2 ^ m ≤ 2 ^ 7 := Nat.pow_le_pow_right (by omega) h4
        omega
      have hpw : wrap64 ((2 : Int) ^ m) = ((2 ^ m : Nat) : Int) := by
        have e : ((2 ^ m : Nat) : Int) = (2 : Int) ^ m := by push_cast; rfl
        rw [← e]
        generalize 2 ^ m = M at hM
        exact IntWalk.wrap64_in _ ⟨by omega, by omega⟩
      have HTwo : Hid (∃ s, s < 2 ^ m ∧ twoP m v s = true) := Lib.hid (two_ok m v 100 (by omega) HB6.out)
      generalize 2 ^ m = M at *
      clear hok h5 h6 hm h1 h2'
      go_enter Try.func3, Try.ntmps3
      go_wp2_with fail
      refine (rvalid_any _ _ _ _ _ _ hv).mono ?_
      rintro e w' ⟨rfl, rfl⟩
      rw [HO.out]
      go_wp2_with fail
      rw [hpw]
      clear hpw
      go_loopw [24] (fun x wr => ∃ s : Nat, s ≤ M ∧ x = .int .i64 s ∧ NoneLt (twoP m v) s ∧ Below W.heap.size W wr) (fun x _ => M - (intOf x).toNat)
      case atStart => exact ⟨0, Nat.zero_le _, rfl, NoneLt.zero, Below.refl _ _⟩
      case round =>
        obtain ⟨s, hs, rfl, hN, hbel⟩ := hrel
        by_cases hlt : s < M
        · have HBel := Lib.hid hbel
          have hsz := hbel.size
          have Hmk := Lib.hid hmk
          clear hbel
          go_wp2_with fail
          obtain ⟨wo, hwo⟩ : ∃ wo : World, wo = wr.alloc (.cells (madeCells #[.int .i64 0] m) 3) := ⟨_, rfl⟩
          have hR0 : RowI wo wr.heap.size m (fun j => if j < 0 then bitF s j else 0) := by
            rw [hwo]
            exact (RowI.made wr m).congr (fun i _ => by simp)
          have hB0 : Below W.heap.size W wo := by rw [hwo]; exact HBel.out.alloc (HBel.out.size) _
          rw [← hwo]
          have HR0 := Lib.hid hR0
          have HB0 := Lib.hid hB0
          clear hwo hR0 hB0
          go_loopw [31] (fun x wi => ∃ k : Nat, k ≤ m ∧ x = .int .i64 k ∧ RowI wi wr.heap.size m (fun j => if j < k then bitF s j else 0) ∧ Below W.heap.size W wi) (fun x _ => m - (intOf x).toNat)
          case atStart => exact ⟨0, Nat.zero_le _, rfl, HR0.out, HB0.out⟩
          case round =>
            obtain ⟨k, hk, rfl, hR, hBi⟩ := hrel
            by_cases hlt2 : k < m
            · have hk63 : (k : Int) ≤ 63 := by omega
              have hc := hR.cell hlt2
              have hf := hR.frozen k
              have HR := Lib.hid hR
              have HBi := Lib.hid hBi
              clear hR hBi
              go_wp2
              go_roundw
              case rel =>
                refine ⟨k + 1, by omega, by go_num, (HR.out.set k _).congr (fun i hi => ?_), HBi.out.setCell hsz _⟩
                by_cases e : i = k
                · subst e
                  rw [upd_at, if_pos (by omega)]
                  unfold bitF
                  rw [i64_and1]
                  push_cast
                  rfl
                · rw [upd_ne _ _ e]
                  by_cases e2 : i < k
                  · rw [if_pos e2, if_pos (by omega)]
                  · rw [if_neg e2, if_neg (by omega)]
              case measure => simp [intOf]; omega
            · obtain rfl : k = m := by omega
              have HR := Lib.hid (hR.congr (f' := bitF s) (fun i hi => by simp [hi]))
              have HBi := Lib.hid hBi
              clear hR hBi
              go_wp2_with fail
              refine (few_any _ 2 c L v _ (hv.below HBi.out)).mono ?_
              rintro e w1 ⟨x, rfl, hx, hb1⟩
              obtain ⟨A1, c1, rfl, hR1, -⟩ := hx.rows
              have Hb1 := Lib.hid (HBi.out.trans (hb1.mono HBi.out.size))
              have HI1 := Lib.hid (HR.out.keep hb1).ints
              have HR1 := Lib.hid hR1
              clear hb1 hx hR1
              go_wp2_with fail
              refine Ro.use (Fair_ok _ _ _ _ _ _ _ v (bitF s) 2 _ HR1.out HI1.out (by omega) (fun _ _ => Nat.min_le_right _ _) (by omega) (HO2.out s) (by omega) (by omega)) ?_
              intro w3 hD
              have Hb3 := Lib.hid (Hb1.out.trans (hD.below _))
              clear hD
              have hfa : allB (fairToB 2 k v (bitF s) 2) 2 = twoP k v s := rfl
              rw [hfa]
              clear hfa
              cases ht : twoP k v s with
              | true =>
                go_wp2_with fail
                refine (awake_any _).mono ?_
                rintro e w4 ⟨rfl, hb4⟩
                have Hb4 := Lib.hid (Hb3.out.trans (hb4.mono Hb3.out.size))
                clear hb4
                go_wp2
                go_ret
                exact ⟨rfl, Hb4.out⟩
              | false =>
                have HT := Lib.hid ht
                clear ht
                go_wp2
                go_roundw
                case rel =>
                  exact ⟨s + 1, by omega, by go_num, hN.succ HT.out, Hb3.out⟩
                case measure => simp [intOf]; omega
        · exfalso
          obtain ⟨t, h7, h8⟩ := HTwo.out
          have := hN t (by omega)
          rw [h8] at this
          cases this
  · have hB := bne_t (a := (n : Int)) (b := 2) (by omega)
    go_enter Try.func3, Try.ntmps3
    go_wp2_with fail
    refine (awake_any _).mono ?_
    rintro e w4 ⟨rfl, hb4⟩
    have Hb4 := Lib.hid hb4
    clear hb4
    go_wp2
    go_ret
    exact ⟨rfl, Hb4.out⟩
end Go.Proofs.Ytghkcdldkbencab
