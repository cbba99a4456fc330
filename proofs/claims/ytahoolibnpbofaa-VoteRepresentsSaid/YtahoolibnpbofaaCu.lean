/- The reference: Approvals, IsCommittee, Score. -/
import Derived.Test.YtahoolibnpbofaaCr
import Derived.Test.YtahoolibnpbofaaRv
namespace Go.Proofs.Ytahoolibnpbofaa
open Go.RowKit

set_option maxHeartbeats 1000000 in
set_option maxRecDepth 1000000 in
theorem rApprovals_any (c k : Int) (A : Option Addr) (n cA : Nat) (f : Nat → Int) (w : World) (h : ArgI w A n cA f) :
    Ro 34 #[.int .i64 c, .int .i64 k, .slice A n cA] w (.bool (okAp c k n f)) := by
  refine Ro.of ?_
  have hn : n ≤ 9223372036854775807 := by
    have h1 := h.1
    have h2 := h.2.1
    unfold maxLen at h2
    omega
  have H := Lib.hid h.2.2.2
  clear h
  have HU : Hid (okAp c k n f = (decide (1 ≤ c ∧ c ≤ 8) && (decide (1 ≤ k ∧ k ≤ c) && (decide (1 ≤ n ∧ n ≤ 9) && allB (fun i => isS (f i) c.toNat) n)))) := Lib.hid rfl
  by_cases hg : (1 ≤ c ∧ c ≤ 8) ∧ (1 ≤ k ∧ k ≤ c) ∧ (1 ≤ n ∧ n ≤ 9)
  · obtain ⟨⟨h1, h2⟩, ⟨h3, h4⟩, h5, h6⟩ := hg
    have HV : Hid (okAp c k n f = allB (fun i => isS (f i) c.toNat) n) := Lib.hid (by rw [HU.out, decide_eq_true ⟨h1, h2⟩, decide_eq_true ⟨h3, h4⟩, decide_eq_true ⟨h5, h6⟩, Bool.true_and, Bool.true_and, Bool.true_and])
    clear HU
    obtain ⟨C, rfl⟩ : ∃ C : Nat, c = (C : Int) := ⟨c.toNat, by omega⟩
    have HV2 : Hid (okAp (C : Int) k n f = allB (fun i => isS (f i) C) n) := HV
    have HPw := Lib.hid (pow_wrap C (by omega))
    have HS : Hid (∀ x : Int, isS x C = (decide (0 ≤ x) && decide (x < ((2 ^ C : Nat) : Int)))) := Lib.hid (fun _ => rfl)
    clear HV
    generalize 2 ^ C = M at *
    go_enter Try.func34, Try.ntmps34
    go_wp2
    go_loopw [36] (fun i wr => ∃ j : Nat, j ≤ n ∧ i = .int .i64 j ∧ AllLt (fun i => isS (f i) C) j ∧ Dn w wr) (fun i _ => n - (intOf i).toNat)
    case atStart => exact ⟨0, Nat.zero_le _, rfl, AllLt.zero, Dn.refl _⟩
    case round =>
      obtain ⟨j, hj, rfl, hA, hD⟩ := hrel
      have HA := Lib.hid hA
      have hpw := HPw.out
      clear hA
      by_cases hlt : j < n
      · obtain ⟨b, o, rfl, hc⟩ := (H.out.dn hD).at hlt
        have HSj := Lib.hid (HS.out (f j))
        rcases Int.lt_or_le (f j) 0 with h0 | h0
        · have HF := Lib.hid (allB_f (p := fun i => isS (f i) C) hlt (by show isS (f j) C = false; rw [HSj.out, decide_eq_false (by omega), Bool.false_and]))
          go_wp2
          go_ret
          exact ⟨ret_bool (by rw [HV2.out, HF.out]), hD⟩
        · rcases Int.lt_or_le (f j) (M : Int) with h7 | h7
          · have HN := Lib.hid (HA.out.succ (p := fun i => isS (f i) C) (by show isS (f j) C = true; rw [HSj.out, decide_eq_true h0, decide_eq_true h7]; rfl))
            go_wp2
            go_roundw
            case rel => exact ⟨j + 1, by omega, by go_num, HN.out, hD⟩
            case measure => simp [intOf]; omega
          · have HF := Lib.hid (allB_f (p := fun i => isS (f i) C) hlt (by show isS (f j) C = false; rw [HSj.out, decide_eq_false (p := f j < (M : Int)) (by omega), Bool.and_false]))
            go_wp2
            go_ret
            exact ⟨ret_bool (by rw [HV2.out, HF.out]), hD⟩
      · obtain rfl : j = n := by omega
        go_wp2
        go_ret
        exact ⟨ret_bool (by rw [HV2.out, allB_t HA.out]), hD⟩
  · have HV : Hid (okAp c k n f = false) := Lib.hid (by
      rw [HU.out]
      by_cases g1 : 1 ≤ c ∧ c ≤ 8
      · by_cases g2 : 1 ≤ k ∧ k ≤ c
        · rw [decide_eq_false (p := 1 ≤ n ∧ n ≤ 9) (fun h => hg ⟨g1, g2, h⟩), Bool.false_and, Bool.and_false, Bool.and_false]
        · rw [decide_eq_false g2, Bool.false_and, Bool.and_false]
      · rw [decide_eq_false g1, Bool.false_and])
    clear HU
    rcases Int.lt_or_le c 1 with a1 | a1
    · go_enter Try.func34, Try.ntmps34
      go_wp2
      go_ret
      exact ⟨ret_bool HV.out.symm, Dn.refl _⟩
    · rcases Int.lt_or_le 8 c with a2 | a2
      · go_enter Try.func34, Try.ntmps34
        go_wp2
        go_ret
        exact ⟨ret_bool HV.out.symm, Dn.refl _⟩
      · rcases Int.lt_or_le k 1 with a3 | a3
        · go_enter Try.func34, Try.ntmps34
          go_wp2
          go_ret
          exact ⟨ret_bool HV.out.symm, Dn.refl _⟩
        · rcases Int.lt_or_le c k with a4 | a4
          · go_enter Try.func34, Try.ntmps34
            go_wp2
            go_ret
            exact ⟨ret_bool HV.out.symm, Dn.refl _⟩
          · rcases Nat.lt_or_ge n 1 with a5 | a5
            · go_enter Try.func34, Try.ntmps34
              go_wp2
              go_ret
              exact ⟨ret_bool HV.out.symm, Dn.refl _⟩
            · have a6 : 9 < n := by
                apply Classical.byContradiction
                intro h
                exact hg ⟨⟨a1, a2⟩, ⟨a3, a4⟩, a5, by omega⟩
              clear hg
              go_enter Try.func34, Try.ntmps34
              go_wp2
              go_ret
              exact ⟨ret_bool HV.out.symm, Dn.refl _⟩

set_option maxHeartbeats 1000000 in
set_option maxRecDepth 1000000 in
theorem isCommittee_any (c k : Nat) (x : Int) (hc : c ≤ 8) (w : World) : Ro 36 #[.int .i64 c, .int .i64 k, .int .i64 x] w (.bool (isCm x c k)) := by
  refine Ro.of ?_
  have hpw := pow_wrap c (by omega)
  have HU : Hid (isCm x c k = (isS x c && decide (pcN x.toNat = k))) := Lib.hid rfl
  have HS : Hid (isS x c = (decide (0 ≤ x) && decide (x < ((2 ^ c : Nat) : Int)))) := Lib.hid rfl
  have hM : 2 ^ c ≤ 256 := by
    have : 2 ^ c ≤ 2 ^ 8 := Nat.pow_le_pow_right (by omega) hc
    omega
  generalize 2 ^ c = M at *
  rcases Int.lt_or_le x 0 with h0 | h0
  · have HV : Hid (isCm x c k = false) := Lib.hid (by rw [HU.out, HS.out, decide_eq_false (by omega), Bool.false_and, Bool.false_and])
    go_enter Try.func36, Try.ntmps36
    go_wp2
    go_ret
    exact ⟨ret_bool (by first | (rw [HV.out]; done) | (rw [HV.out]; rfl) | (rw [HV.out]; simp; omega)), Dn.refl _⟩
  · rcases Int.lt_or_le x (M : Int) with h1 | h1
    · obtain ⟨m, rfl⟩ : ∃ m : Nat, x = (m : Int) := ⟨x.toNat, by omega⟩
      have HV : Hid (isCm (m : Int) c k = decide (pcN m = k)) := Lib.hid (by rw [HU.out, HS.out, decide_eq_true h0, decide_eq_true h1, Int.toNat_natCast]; rfl)
      have HO := Lib.hid (size_any m (by omega) w)
      generalize pcN m = p at *
      by_cases hpk : p = k
      · have HV2 : Hid (isCm (m : Int) c k = true) := Lib.hid (by rw [HV.out, decide_eq_true hpk])
        have e2 := beq_t (a := (p : Int)) (b := (k : Int)) (by omega)
        clear hpk
        go_enter Try.func36, Try.ntmps36
        go_wp2_with fail
        refine HO.out.mono ?_
        rintro e w3 ⟨rfl, rfl⟩
        go_wp2
        go_ret
        exact ⟨ret_bool HV2.out.symm, Dn.refl _⟩
      · have HV2 : Hid (isCm (m : Int) c k = false) := Lib.hid (by rw [HV.out, decide_eq_false hpk])
        have e2 := beq_f (a := (p : Int)) (b := (k : Int)) (by omega)
        clear hpk
        go_enter Try.func36, Try.ntmps36
        go_wp2_with fail
        refine HO.out.mono ?_
        rintro e w3 ⟨rfl, rfl⟩
        go_wp2
        go_ret
        exact ⟨ret_bool HV2.out.symm, Dn.refl _⟩
    · have HV : Hid (isCm x c k = false) := Lib.hid (by rw [HU.out, HS.out, decide_eq_false (p := x < (M : Int)) (by omega), Bool.and_false, Bool.false_and])
      go_enter Try.func36, Try.ntmps36
      go_wp2
      go_ret
      exact ⟨ret_bool (by first | (rw [HV.out]; done) | (rw [HV.out]; rfl) | (rw [HV.out]; simp; omega)), Dn.refl _⟩

set_option maxHeartbeats 1000000 in
set_option maxRecDepth 1000000 in
theorem rScore_any (A : Option Addr) (n cA set : Nat) (f : Nat → Int) (g : Nat → Nat) (w : World) (h : Ints w A n f) (hn : n ≤ 9) (hg : Sets n f g) (hs : set < 256) :
    Ro 67 #[.slice A n cA, .int .i64 set] w (.int .i64 (scN g set n : Nat)) := by
  refine Ro.of ?_
  have H := Lib.hid h
  have HG := Lib.hid hg
  clear h hg
  go_enter Try.func67, Try.ntmps67
  go_wp2
  go_loopw [5, 11] (fun s i wr => ∃ j : Nat, j ≤ n ∧ i = .int .i64 j ∧ s = .int .i64 (scN g set j : Nat) ∧ Dn w wr) (fun _ i _ => n - (intOf i).toNat)
  case atStart => exact ⟨0, Nat.zero_le _, rfl, rfl, Dn.refl _⟩
  case round =>
    obtain ⟨j, hj, rfl, rfl, hD⟩ := hrel
    have hsb := scN_bd g set j
    have HN : Hid (scN g set (j + 1) = scN g set j + hsN (pcN (g j &&& set))) := Lib.hid rfl
    by_cases hlt : j < n
    · generalize scN g set j = S at *
      obtain ⟨b, o, rfl, hc⟩ := (H.out.dn hD).at hlt
      obtain ⟨hfj, hgj⟩ := HG.out j hlt
      rw [hfj] at hc
      have HAn := Lib.hid (and_nat (g j) set (by omega) (by omega))
      have hal : g j &&& set ≤ g j := Nat.and_le_left
      have hpc := pcN_bd (g j &&& set)
      generalize g j &&& set = t at *
      have HO := Lib.hid (size_any t (by omega) wr)
      have hS : S ≤ 9 * 7560 := by omega
      clear hfj hsb
      go_wp2
      generalize hp : pcN t = p at *
      clear hp
      go_loopw [5, 8] (fun s i wx => ∃ q : Nat, q ≤ p ∧ i = .int .i64 ((q : Int) + 1) ∧ s = .int .i64 ((S + hsN q : Nat) : Int) ∧ wr = wx) (fun _ i _ => p + 1 - (intOf i).toNat)
      case atStart => exact ⟨0, Nat.zero_le _, by first | rfl | go_num, rfl, rfl⟩
      case round =>
        obtain ⟨q, hq, rfl, rfl, rfl⟩ := hrel
        have hb1 := hsN_bd q (by omega)
        have HN2 : Hid (hsN (q + 1) = hsN q + 840 / (q + 1)) := Lib.hid rfl
        have han := HAn.out
        by_cases hlq : q < p
        · generalize hsN q = R at *
          have hdiv : Int.tdiv 840 ((q : Int) + 1) = ((840 / (q + 1) : Nat) : Int) := by
            rw [Int.tdiv_eq_ediv_of_nonneg (by omega)]
            push_cast
            rfl
          have hd9 : 840 / (q + 1) ≤ 840 := Nat.div_le_self _ _
          generalize 840 / (q + 1) = dd at *
          have hle : (q : Int) + 1 ≤ (p : Int) := by omega
          go_wp2_with (go_at_call 46; refine HO.out.mono ?_; rintro e w3 ⟨rfl, rfl⟩)
          go_roundw
          case rel => exact ⟨q + 1, by omega, val_int (by push_cast; omega), by rw [HN2.out]; exact val_int (by omega), (by first | trivial | rfl)⟩
          case measure => simp [intOf]; omega
        · have hqp : q = p := by omega
          subst hqp
          have hle : ¬ (q : Int) + 1 ≤ (q : Int) := by omega
          go_wp2_with (go_at_call 46; refine HO.out.mono ?_; rintro e w3 ⟨rfl, rfl⟩)
          go_roundw
          case rel => exact ⟨j + 1, by omega, by go_num, (by first | (rw [HN.out]; done) | (rw [HN.out]; rfl)), hD⟩
          case measure => simp [intOf]; omega
    · have hjn : j = n := by omega
      go_wp2
      go_ret
      exact ⟨ret_int (by rw [← hjn]), hD⟩
end Go.Proofs.Ytahoolibnpbofaa
