import Derived.Test.YtkgikehagkpmoaaT6
import Derived.Test.YtkgikehagkpmoaaT5
import Derived.Test.YtkgikehagkpmoaaFew
namespace Go.Proofs.Ytkgikehagkpmoaa
open Go.RowKit

def bdB (n : Nat) (f : Nat → Int) : Bool := decide (Bd n f 100)
theorem rworths_any (A : Option Addr) (n c : Nat) (f : Nat → Int) (w : World) (h : Ints w A n f) (hn : n ≤ 9) :
    Calls Try.prog 41 #[.slice A n c] w fun e w' => e = .returned (.bool (bdB n f)) ∧ w = w' := by
  go_enter Try.func41, Try.ntmps41
  go_wp2
  go_loop [7] (fun i => ∃ k : Nat, k ≤ n ∧ i = .int .i64 k ∧ Bd k f 100) (fun i => n - (intOf i).toNat)
  case atStart => exact ⟨0, Nat.zero_le _, rfl, Bd.zero⟩
  case round =>
    obtain ⟨k, hk, rfl, hb⟩ := hrel
    by_cases hlt : k < n
    · obtain ⟨b, o, rfl, hc⟩ := h.at hlt
      by_cases hok : 0 ≤ f k ∧ f k ≤ 100
      · obtain ⟨h1, h2⟩ := hok
        go_wp2
        go_round
        case rel => exact ⟨k + 1, by omega, by go_num, hb.succ h1 h2⟩
        case measure => simp [intOf]; omega
      · have HE : Hid (bdB n f = false) := Lib.hid (by simp only [bdB, decide_eq_false_iff_not]; intro hh; exact hok (hh k hlt))
        by_cases h1 : f k < 0
        · clear hok
          go_wp2
          go_ret
          exact ⟨ret_bool HE.out.symm, rfl⟩
        · have h2 : 100 < f k := by omega
          clear hok
          go_wp2
          go_ret
          exact ⟨ret_bool HE.out.symm, rfl⟩
    · obtain rfl : k = n := by omega
      go_wp2
      go_ret
      exact ⟨ret_bool (show true = bdB _ _ from (decide_eq_true hb).symm), rfl⟩

set_option maxHeartbeats 1000000 in
set_option maxRecDepth 1000000 in
theorem rvalid_any (A : Option Addr) (n c : Nat) (L : Nat → Nat) (v : Nat → Nat → Int) (w : World) (h : ArgR w A n c L v) :
    Calls Try.prog 15 #[.slice A n c] w fun e w' => e = .returned (.bool (okVals n L v)) ∧ w = w' := by
  by_cases h0 : 1 ≤ n ∧ n ≤ 4
  · obtain ⟨h0, h7⟩ := h0
    go_enter Try.func15, Try.ntmps15
    go_wp2
    go_loop [15] (fun i => ∃ k : Nat, k ≤ n ∧ i = .int .i64 k ∧ RowsOk k L v) (fun i => n - (intOf i).toNat)
    case atStart => exact ⟨0, Nat.zero_le _, rfl, RowsOk.zero⟩
    case round =>
      obtain ⟨k, hk, rfl, hb⟩ := hrel
      by_cases hlt : k < n
      · obtain ⟨b, o, R, cR, rfl, hc, hR⟩ := h.at hlt
        obtain ⟨b0, o0, R0, c0, e0, hc0, _⟩ := h.at (i := 0) (by omega)
        injection e0 with e0
        injection e0 with e1 e2
        subst e1 e2
        rw [Nat.add_zero] at hc0
        have HRI := Lib.hid hR.2.2.2
        clear hR
        by_cases heq : L k = L 0
        · have HE := Lib.hid heq
          have h1 := bne_f (a := (L k : Int)) (b := (L 0 : Int)) (by omega)
          by_cases hl1 : 1 ≤ L k
          · by_cases hl7 : L k ≤ 7
            · by_cases hok : okRow (L k) (v k) = true
              · have HO := Lib.hid hok
                have HD : Hid (bdB (L k) (v k) = true) := Lib.hid (by have := hok; simp only [okRow, decide_eq_true_eq] at this; exact decide_eq_true this.2.2)
                clear heq hok
                go_wp2_with fail
                refine (rworths_any _ _ _ _ _ HRI.out (by omega)).mono ?_
                rintro e w' ⟨rfl, rfl⟩
                rw [HD.out]
                go_wp2
                go_round
                case rel => exact ⟨k + 1, by omega, by go_num, hb.succ HO.out HE.out⟩
                case measure => simp [intOf]; omega
              · have HF : Hid (okVals n L v = false) := Lib.hid (by simp only [okVals, decide_eq_false_iff_not]; intro hh; exact hok (hh.2.2 k hlt).1)
                have HD : Hid (bdB (L k) (v k) = false) := Lib.hid (by have := hok; simp only [okRow, decide_eq_true_eq] at this; simp only [bdB, decide_eq_false_iff_not]; intro hh; exact this ⟨hl1, hl7, hh⟩)
                clear heq hok
                go_wp2_with fail
                refine (rworths_any _ _ _ _ _ HRI.out (by omega)).mono ?_
                rintro e w' ⟨rfl, rfl⟩
                rw [HD.out]
                go_wp2
                go_ret
                exact ⟨ret_bool HF.out.symm, rfl⟩
            · have HF : Hid (okVals n L v = false) := Lib.hid (by simp only [okVals, decide_eq_false_iff_not]; intro hh; have := (hh.2.2 k hlt).1; simp only [okRow, decide_eq_true_eq] at this; omega)
              have hl7' : 7 < L k := by omega
              clear heq hl7
              go_wp2
              go_ret
              exact ⟨ret_bool HF.out.symm, rfl⟩
          · have HF : Hid (okVals n L v = false) := Lib.hid (by simp only [okVals, decide_eq_false_iff_not]; intro hh; have := (hh.2.2 k hlt).1; simp only [okRow, decide_eq_true_eq] at this; omega)
            have hl1' : L k < 1 := by omega
            clear heq hl1
            go_wp2
            go_ret
            exact ⟨ret_bool HF.out.symm, rfl⟩
        · have HF : Hid (okVals n L v = false) := Lib.hid (by simp only [okVals, decide_eq_false_iff_not]; intro hh; exact heq (hh.2.2 k hlt).2)
          have h1 := bne_t (a := (L k : Int)) (b := (L 0 : Int)) (by omega)
          clear heq
          go_wp2
          go_ret
          exact ⟨ret_bool HF.out.symm, rfl⟩
      · obtain rfl : k = n := by omega
        go_wp2
        go_ret
        exact ⟨ret_bool (by symm; simp only [okVals, decide_eq_true_eq]; exact ⟨h0, h7, hb⟩), rfl⟩
  · have e : okVals n L v = false := by simp only [okVals, decide_eq_false_iff_not]; intro hh; omega
    rw [e]
    by_cases h1 : n < 1
    · go_enter Try.func15, Try.ntmps15
      go_wp2
      go_ret
      exact ⟨rfl, rfl⟩
    · have h7 : 4 < n := by omega
      clear h0
      go_enter Try.func15, Try.ntmps15
      go_wp2
      go_ret
      exact ⟨rfl, rfl⟩

def divB (n nd : Nat) (L : Nat → Nat) (d : Nat → Int) : Bool := decide (nd = L 0 ∧ Own n nd d)

set_option maxHeartbeats 1000000 in
set_option maxRecDepth 1000000 in
theorem rdivision_any (A D : Option Addr) (n c nd cd : Nat) (L : Nat → Nat) (v : Nat → Nat → Int) (d : Nat → Int) (w : World) (h : Rows2 w A n L v) (hn : 0 < n) (_hn4 : n ≤ 4) (hd : Ints w D nd d) (hnd : nd ≤ 9223372036854775807) :
    Calls Try.prog 31 #[.slice A n c, .slice D nd cd] w fun e w' => e = .returned (.bool (divB n nd L d)) ∧ w = w' := by
  obtain ⟨b, o, R, cR, rfl, -, -⟩ := h.at hn
  obtain ⟨R0, c0, hc0, -⟩ := h.cell0 hn
  clear h
  go_enter Try.func31, Try.ntmps31
  go_wp2
  go_loop [9] (fun i => ∃ k : Nat, k ≤ nd ∧ i = .int .i64 k ∧ Own n k d) (fun i => nd - (intOf i).toNat)
  case atStart => exact ⟨0, Nat.zero_le _, rfl, Own.zero⟩
  case round =>
    obtain ⟨k, hk, rfl, hO⟩ := hrel
    by_cases hlt : k < nd
    · obtain ⟨b', o', rfl, hc'⟩ := hd.at hlt
      by_cases e1 : d k < 0
      · have HF : Hid (divB n nd L d = false) := Lib.hid (by simp only [divB, decide_eq_false_iff_not]; exact (fun hh => by have := hh.2 k hlt; omega))
        go_wp2
        go_ret
        exact ⟨ret_bool HF.out.symm, rfl⟩
      · by_cases e2 : d k < n
        · go_wp2
          go_round
          case rel => exact ⟨k + 1, by omega, by go_num, hO.succ (by omega) e2⟩
          case measure => simp [intOf]; omega
        · have HF : Hid (divB n nd L d = false) := Lib.hid (by simp only [divB, decide_eq_false_iff_not]; exact (fun hh => by have := hh.2 k hlt; omega))
          go_wp2
          go_ret
          exact ⟨ret_bool HF.out.symm, rfl⟩
    · obtain rfl : k = nd := by omega
      by_cases e : k = L 0
      · have hB := beq_t (a := (k : Int)) (b := (L 0 : Int)) (by omega)
        have HF : Hid (divB n k L d = true) := Lib.hid (by simp only [divB, decide_eq_true_eq]; exact ⟨e, hO⟩)
        clear e
        go_wp2
        go_ret
        exact ⟨ret_bool (by rw [HF.out]), rfl⟩
      · have hB := beq_f (a := (k : Int)) (b := (L 0 : Int)) (by omega)
        have HF : Hid (divB n k L d = false) := Lib.hid (by simp only [divB, decide_eq_false_iff_not]; exact fun hh => e hh.1)
        clear e
        go_wp2
        go_ret
        exact ⟨ret_bool (by rw [HF.out]), rfl⟩

theorem rworth_any (A D : Option Addr) (n m c c' : Nat) (v : Nat → Nat → Int) (d : Nat → Int) (i : Nat) (j : Int) (w : World) (h : Mat w A n m v) (hd : Ints w D m d) (hb : BdM n m v 100000) (hm : m ≤ 9) (hi : i < n) (_hn : n ≤ 9) :
    Calls Try.prog 76 #[.slice A n c, .slice D m c', .int .i64 i, .int .i64 j] w fun e w' => e = .returned (.int .i64 (wTo (v i) d j m)) ∧ w = w' := by
  obtain ⟨b, o, R, cR, rfl, hc, hR⟩ := h.at hi
  have HB := Lib.hid (hb i hi)
  clear hb
  go_enter Try.func76, Try.ntmps76
  go_wp2
  go_loop [9, 14] (fun s x => ∃ k : Nat, k ≤ m ∧ x = .int .i64 k ∧ s = .int .i64 (wTo (v i) d j k)) (fun _ x => m - (intOf x).toNat)
  case atStart => exact ⟨0, Nat.zero_le _, rfl, rfl⟩
  case round =>
    obtain ⟨k, hk, rfl, rfl⟩ := hrel
    by_cases hlt : k < m
    · obtain ⟨b1, o1, rfl, hc1⟩ := hR.at hlt
      obtain ⟨b', o', rfl, hc'⟩ := hd.at hlt
      obtain ⟨h1, h2⟩ := HB.out k hlt
      obtain ⟨h3, h4⟩ := wTo_bd HB.out d j k (by omega)
      obtain ⟨h5, h6⟩ := sumTo_bd HB.out k (by omega)
      by_cases e : d k = j
      · have HE := Lib.hid (wTo_yes (f := v i) e)
        have hB := beq_t e
        clear e
        go_wp2
        go_round
        case rel => exact ⟨k + 1, by omega, by go_num, by rw [HE.out]⟩
        case measure => simp [intOf]; omega
      · have HE := Lib.hid (wTo_no (f := v i) e)
        have hB := beq_f e
        clear e
        go_wp2
        go_round
        case rel => exact ⟨k + 1, by omega, by go_num, by rw [HE.out]⟩
        case measure => simp [intOf]; omega
    · obtain rfl : k = m := by omega
      go_wp2
      go_ret
      exact ⟨rfl, rfl⟩

theorem renvies_any (A D : Option Addr) (n m c c' : Nat) (v : Nat → Nat → Int) (d : Nat → Int) (i : Nat) (j : Int) (w : World) (h : Mat w A n m v) (hd : Ints w D m d) (hb : BdM n m v 100000) (hm : m ≤ 9) (hi : i < n) (hn : n ≤ 9) :
    Calls Try.prog 66 #[.slice A n c, .slice D m c', .int .i64 i, .int .i64 j] w fun e w' => e = .returned (.bool (envB m v d i j)) ∧ w = w' := by
  have HB := Lib.hid hb
  clear hb
  go_enter Try.func66, Try.ntmps66
  go_wp2_with fail
  refine (rworth_any _ _ n m _ _ v d i j _ h hd HB.out hm hi hn).mono ?_
  rintro e w' ⟨rfl, rfl⟩
  go_wp2_with fail
  refine (rworth_any _ _ n m _ _ v d i i _ h hd HB.out hm hi hn).mono ?_
  rintro e w' ⟨rfl, rfl⟩
  go_wp2
  go_ret
  exact ⟨rfl, rfl⟩
end Go.Proofs.Ytkgikehagkpmoaa
