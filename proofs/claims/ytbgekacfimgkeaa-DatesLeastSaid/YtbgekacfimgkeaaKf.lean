/- The reference's Befores, may, Worst. -/
import Derived.Test.YtbgekacfimgkeaaKd
import Derived.Test.YtbgekacfimgkeaaJf
namespace Go.Proofs.Ytbgekacfimgkeaa
open Go.RowKit

set_option maxHeartbeats 2000000 in
set_option maxRecDepth 1000000 in
theorem refBefores_any (A B : Option Addr) (n c m c2 : Nat) (F : Nat → Nat → Int) (w : World) (hF : Recs 2 w B m F) (hn : 1 ≤ n ∧ n ≤ 8) (hm : m ≤ maxLen) :
    Lr 31 #[.slice A n c, .slice B m c2] w (.bool (bfB n m F)) := by
  unfold Lr
  have H := Lib.hid hF
  have hm2 : m ≤ 9223372036854775807 := by unfold maxLen at hm; omega
  obtain ⟨hn1, hn8⟩ := hn
  have HF : Hid (∀ k, k < m → bfP n F k = false → bfB n m F = false) := Lib.hid (fun k hk h => by unfold bfB; rw [allB_f hk h, Bool.and_false])
  have HT : Hid (AllLt (bfP n F) m → bfB n m F = decide (m ≤ 16)) := Lib.hid (fun h => by unfold bfB; rw [allB_t h, Bool.and_true])
  clear hF hm
  go_enter Try.func31, Try.ntmps31
  go_wp2
  go_loopw [9] (fun i wr => ∃ k : Nat, k ≤ m ∧ i = .int .i64 k ∧ AllLt (bfP n F) k ∧ Below w.heap.size w wr) (fun i _ => m - (intOf i).toNat)
  case atStart => exact ⟨0, Nat.zero_le _, rfl, AllLt.zero, Below.refl _ _⟩
  case round =>
    obtain ⟨k, hk, rfl, hA, hD⟩ := hrel
    by_cases hlt : k < m
    · obtain ⟨b, o, rfl, c0, c1⟩ := (H.out.keep hD).two hlt
      have HA := Lib.hid hA
      have HD1 := Lib.hid (hD.alloc hD.size (.cells #[.int .i64 (F k 0), .int .i64 (F k 1)] 52))
      clear hA hD
      by_cases h0 : F k 0 < 0
      · have HE := Lib.hid (HF.out k hlt (by simp only [bfP, witB, Bool.and_eq_false_iff, decide_eq_false_iff_not]; omega))
        go_wp2
        go_ret
        exact ⟨ret_bool HE.out.symm, HD1.out⟩
      · have d0 : decide (F k 0 < 0) = false := decide_eq_false h0
        by_cases h1 : (n : Int) ≤ F k 0
        · have HE := Lib.hid (HF.out k hlt (by simp only [bfP, witB, Bool.and_eq_false_iff, decide_eq_false_iff_not]; omega))
          go_wp2
          go_ret
          exact ⟨ret_bool HE.out.symm, HD1.out⟩
        · have d1 : decide ((n : Int) ≤ F k 0) = false := decide_eq_false h1
          by_cases h2 : F k 1 < 0
          · have HE := Lib.hid (HF.out k hlt (by simp only [bfP, witB, Bool.and_eq_false_iff, decide_eq_false_iff_not]; omega))
            go_wp2
            go_ret
            exact ⟨ret_bool HE.out.symm, HD1.out⟩
          · have d2 : decide (F k 1 < 0) = false := decide_eq_false h2
            by_cases h3 : (n : Int) ≤ F k 1
            · have HE := Lib.hid (HF.out k hlt (by simp only [bfP, witB, Bool.and_eq_false_iff, decide_eq_false_iff_not]; omega))
              go_wp2
              go_ret
              exact ⟨ret_bool HE.out.symm, HD1.out⟩
            · have d3 : decide ((n : Int) ≤ F k 1) = false := decide_eq_false h3
              have HN := Lib.hid (show bfP n F k = true by simp only [bfP, witB, Bool.and_eq_true, decide_eq_true_iff]; omega)
              go_wp2
              go_roundw
              case rel => exact ⟨k + 1, by omega, by go_num, HA.out.succ HN.out, HD1.out⟩
              case measure => simp [intOf]; omega
    · obtain rfl : k = m := by omega
      have HE := Lib.hid (HT.out hA)
      by_cases h16 : k ≤ 16
      · have HE2 := Lib.hid (show bfB n k F = true by rw [HE.out]; exact decide_eq_true h16)
        have d : decide ((k : Int) ≤ 16) = true := decide_eq_true (by omega)
        clear hA
        go_wp2
        go_ret
        exact ⟨ret_bool (by rw [HE2.out]), hD⟩
      · have HE2 := Lib.hid (show bfB n k F = false by rw [HE.out]; exact decide_eq_false h16)
        have d : decide ((k : Int) ≤ 16) = false := decide_eq_false (by omega)
        clear hA
        go_wp2
        go_ret
        exact ⟨ret_bool (by rw [HE2.out]), hD⟩

/-- A job may come next. -/
def myP (F : Nat → Nat → Int) (s j k : Nat) : Bool := !(decide (F k 1 = (j : Int)) && !btN s (F k 0).toNat)
def myB (m : Nat) (F : Nat → Nat → Int) (s j : Nat) : Bool := allB (myP F s j) m && !btN s j
theorem my_cf {n m : Nat} {F : Nat → Nat → Int} (h8 : n ≤ 8) (hbf : bfB n m F = true) {s j : Nat} (hs : s < 256) : myB m F s j = cfB (nF F m) s j := by
  rw [Bool.eq_iff_iff, cf_iff (nF_lt h8 hbf m (Nat.le_refl _) _) hs]
  unfold myB
  rw [Bool.and_eq_true_iff, allB_iff]
  constructor
  · rintro ⟨h1, h2⟩
    refine ⟨by simpa using h2, fun i hi hb => ?_⟩
    obtain ⟨k, hk, e1, e2⟩ := (nF_bit h8 hbf hi m (Nat.le_refl _)).1 hb
    have h3 := h1 k hk
    unfold myP at h3
    rw [decide_eq_true e1, e2, Int.toNat_natCast] at h3
    simpa using h3
  · rintro ⟨h1, h2⟩
    refine ⟨fun k hk => ?_, by rw [h1]; rfl⟩
    unfold myP
    by_cases e : F k 1 = (j : Int)
    · have hr := (bf_rng hbf).2 k hk
      have h3 := h2 (F k 0).toNat (by omega) ((nF_bit h8 hbf (by omega) m (Nat.le_refl _)).2 ⟨k, hk, e, by omega⟩)
      rw [h3]
      simp
    · rw [decide_eq_false e]
      rfl
set_option maxHeartbeats 4000000 in
set_option maxRecDepth 1000000 in
theorem may_any (A B C : Option Addr) (n c m c2 i c3 j : Nat) (F : Nat → Nat → Int) (g : Nat → Int) (w : World) (hF : Recs 2 w B m F) (hn : n ≤ 8) (hm : m ≤ maxLen) (hbf : bfB n m F = true) (hg : Ints w C i g) (hi : i ≤ n) (hr : ∀ a, a < i → 0 ≤ g a ∧ g a < n) (hj : j < n) :
    Lr 84 #[.slice A n c, .slice B m c2, .slice C i c3, .int .i64 j] w (.bool (myB m F (pfS g i) j)) := by
  unfold Lr
  have H := Lib.hid hF
  have HG := Lib.hid hg
  have HR := Lib.hid hr
  have HBr := Lib.hid (bf_rng hbf).2
  have hm2 : m ≤ 9223372036854775807 := by unfold maxLen at hm; omega
  have hp := Nat.pow_le_pow_right (n := 2) (by omega) hn
  have HPf := Lib.hid (fun k (hk : k ≤ i) => show pfS g k < 256 by have := pfS_lt (n := n) k (fun a ha => hr a (by omega)); omega)
  have HS : Hid (∀ k, pfS g (k + 1) = orX (pfS g k) (g k).toNat) := Lib.hid (fun _ => rfl)
  have HMf : Hid (∀ k, k < m → myP F (pfS g i) j k = false → myB m F (pfS g i) j = false) := Lib.hid (fun k hk h => by unfold myB; rw [allB_f hk h, Bool.false_and])
  have HMt : Hid (AllLt (myP F (pfS g i) j) m → myB m F (pfS g i) j = !btN (pfS g i) j) := Lib.hid (fun h => by unfold myB; rw [allB_t h, Bool.true_and])
  have H00 : Hid (pfS g 0 = 0) := Lib.hid rfl
  clear hF hm hg hr hbf hp
  go_enter Try.func84, Try.ntmps84
  go_wp2
  go_loopw [9, 16] (fun dn i' wr => ∃ k : Nat, k ≤ i ∧ i' = .int .i64 k ∧ dn = .int .i64 ((pfS g k : Nat) : Int) ∧ w = wr) (fun _ i' _ => i - (intOf i').toNat)
  case atStart => exact ⟨0, Nat.zero_le _, rfl, by rw [H00.out]; rfl, rfl⟩
  case round =>
    obtain ⟨k, hk, rfl, rfl, rfl⟩ := hrel
    have hsk := HPf.out k hk
    by_cases hlt : k < i
    · obtain ⟨b, o, rfl, hc⟩ := HG.out (show 0 < i by omega)
      have hck := hc k hlt
      have hrk := HR.out k hlt
      obtain ⟨X, hX⟩ : ∃ X : Nat, g k = X := ⟨(g k).toNat, by omega⟩
      have HSk := Lib.hid (show pfS g (k + 1) = orX (pfS g k) X by rw [HS.out, hX, Int.toNat_natCast])
      rw [hX] at hck hrk
      have hX8 : X < 8 := by omega
      have hw1 := pow_fit X (by omega)
      obtain ⟨hw2, -⟩ := bit_or X hX8 (pfS g k) hsk
      clear hc hX
      generalize orX (pfS g k) X = s' at *
      generalize pfS g k = s at *
      generalize (2 : Nat) ^ X = pw at *
      go_wp2
      go_roundw
      case rel => exact ⟨k + 1, by omega, by go_num, by rw [HSk.out], by first | rfl | trivial⟩
      case measure => simp [intOf]; omega
    · have hki : i = k := by omega
      subst hki
      generalize hse : pfS g i = s at *
      have HSe := Lib.hid hse
      clear hse
      go_wp2
      go_loopw [27] (fun i' wr => ∃ k : Nat, k ≤ m ∧ i' = .int .i64 k ∧ AllLt (myP F s j) k ∧ Below w.heap.size w wr) (fun i' _ => m - (intOf i').toNat)
      case atStart => exact ⟨0, Nat.zero_le _, rfl, AllLt.zero, Below.refl _ _⟩
      case round =>
        obtain ⟨k, hk, rfl, hA, hD⟩ := hrel
        by_cases hlt : k < m
        · obtain ⟨b, o, rfl, c0, c1⟩ := (H.out.keep hD).two hlt
          have HA := Lib.hid hA
          have HD1 := Lib.hid (hD.alloc hD.size (.cells #[.int .i64 (F k 0), .int .i64 (F k 1)] 52))
          obtain ⟨⟨hx0, hx1⟩, -⟩ := HBr.out k hlt
          have HP : Hid (myP F s j k = !(decide (F k 1 = (j : Int)) && !btN s (F k 0).toNat)) := Lib.hid rfl
          obtain ⟨X, hX⟩ : ∃ X : Nat, F k 0 = X := ⟨(F k 0).toNat, by omega⟩
          rw [hX, Int.toNat_natCast] at HP
          rw [hX] at c0 hx0 hx1 HD1
          have hX64 : X < 64 := by omega
          have hbit := bit_and s X
          clear hA hD hX
          by_cases e : F k 1 = (j : Int)
          · have hB := beq_t e
            cases hb : btN s X with
            | true =>
              have HN := Lib.hid (show myP F s j k = true by rw [HP.out, hb]; simp)
              rw [hb] at hbit
              simp only [if_true] at hbit
              clear hb e
              go_wp2
              go_roundw
              case rel => exact ⟨k + 1, by omega, by go_num, HA.out.succ HN.out, HD1.out⟩
              case measure => simp [intOf]; omega
            | false =>
              have HE := Lib.hid (HMf.out k hlt (by rw [HP.out, hb, decide_eq_true e]; rfl))
              rw [hb] at hbit
              simp only [Bool.false_eq_true, if_false] at hbit
              clear hb e
              go_wp2
              go_ret
              exact ⟨ret_bool (by rw [HSe.out]; exact HE.out.symm), HD1.out⟩
          · have hB := beq_f e
            have HN := Lib.hid (show myP F s j k = true by rw [HP.out, decide_eq_false e]; rfl)
            clear e hbit
            go_wp2
            go_roundw
            case rel => exact ⟨k + 1, by omega, by go_num, HA.out.succ HN.out, HD1.out⟩
            case measure => simp [intOf]; omega
        · obtain rfl : k = m := by omega
          have HE := Lib.hid (HMt.out hA)
          have hbit := bit_and s j
          have hj64 : j < 64 := by omega
          clear hA
          cases hb : btN s j with
          | true =>
            have HE2 := Lib.hid (show myB k F s j = false by rw [HE.out, hb]; rfl)
            rw [hb] at hbit
            simp only [if_true] at hbit
            clear hb
            go_wp2
            go_ret
            exact ⟨ret_bool (by rw [HSe.out, HE2.out]), hD⟩
          | false =>
            have HE2 := Lib.hid (show myB k F s j = true by rw [HE.out, hb]; rfl)
            rw [hb] at hbit
            simp only [Bool.false_eq_true, if_false] at hbit
            clear hb
            go_wp2
            go_ret
            exact ⟨ret_bool (by rw [HSe.out, HE2.out]), hD⟩
end Go.Proofs.Ytbgekacfimgkeaa
