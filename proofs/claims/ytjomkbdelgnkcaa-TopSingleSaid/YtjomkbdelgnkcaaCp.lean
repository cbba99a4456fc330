/- Approvals, scores, groups: the program. -/
import Derived.Test.YtjomkbdelgnkcaaCm
import Derived.Test.YtjomkbdelgnkcaaCo
namespace Go.Proofs.Ytjomkbdelgnkcaa
open Go.RowKit

theorem and_nat (x y : Nat) (hx : x < 9223372036854775808) (hy : y < 9223372036854775808) : bits .and .i64 (x : Int) (y : Int) = ((x &&& y : Nat) : Int) := by
  have key : (BitVec.ofInt 64 (x : Int) &&& BitVec.ofInt 64 (y : Int)).toNat = x &&& y := by
    rw [BitVec.toNat_and, BitVec.toNat_ofInt, BitVec.toNat_ofInt]
    congr 1 <;> omega
  have hle : x &&& y ≤ x := Nat.and_le_left
  show IntKind.i64.wrap ((BitVec.ofInt 64 (x : Int) &&& BitVec.ofInt 64 (y : Int)).toNat : Nat) = ((x &&& y : Nat) : Int)
  rw [key, IntKind.wrap_i64]
  omega
def isS (x : Int) (c : Nat) : Bool := decide (0 ≤ x) && decide (x < ((2 ^ c : Nat) : Int))
def okAp (c k : Int) (n : Nat) (f : Nat → Int) : Bool := decide (1 ≤ c ∧ c ≤ 8) && (decide (1 ≤ k ∧ k ≤ c) && (decide (1 ≤ n ∧ n ≤ 9) && allB (fun i => isS (f i) c.toNat) n))

set_option maxHeartbeats 1000000 in
set_option maxRecDepth 1000000 in
theorem isSet_any (x : Int) (c : Nat) (hc : c ≤ 8) (w : World) : Ro 54 #[.int .i64 x, .int .i64 c] w (.bool (isS x c)) := by
  refine Ro.of ?_
  have hpw := pow_wrap c (by omega)
  have HU : Hid (isS x c = (decide (0 ≤ x) && decide (x < ((2 ^ c : Nat) : Int)))) := Lib.hid rfl
  generalize 2 ^ c = M at *
  rcases Int.lt_or_le x 0 with h0 | h0
  · have HV : Hid (isS x c = false) := Lib.hid (by rw [HU.out, decide_eq_false (by omega), Bool.false_and])
    go_enter Try.func54, Try.ntmps54
    go_wp2
    go_ret
    exact ⟨ret_bool (by first | (rw [HV.out]; done) | (rw [HV.out]; rfl) | (rw [HV.out]; simp; omega)), Dn.refl _⟩
  · rcases Int.lt_or_le x (M : Int) with h1 | h1
    · have HV : Hid (isS x c = true) := Lib.hid (by rw [HU.out, decide_eq_true h0, decide_eq_true h1]; rfl)
      go_enter Try.func54, Try.ntmps54
      go_wp2
      go_ret
      exact ⟨ret_bool (by first | (rw [HV.out]; done) | (rw [HV.out]; rfl) | (rw [HV.out]; simp; omega)), Dn.refl _⟩
    · have HV : Hid (isS x c = false) := Lib.hid (by rw [HU.out, decide_eq_false (p := x < (M : Int)) (by omega), Bool.and_false])
      go_enter Try.func54, Try.ntmps54
      go_wp2
      go_ret
      exact ⟨ret_bool (by first | (rw [HV.out]; done) | (rw [HV.out]; rfl) | (rw [HV.out]; simp; omega)), Dn.refl _⟩

set_option maxHeartbeats 1000000 in
set_option maxRecDepth 1000000 in
theorem approvals_any (c k : Int) (A : Option Addr) (n cA : Nat) (f : Nat → Int) (w : World) (h : Ints w A n f) (hn : n ≤ 1000) :
    Ro 29 #[.int .i64 c, .int .i64 k, .slice A n cA] w (.bool (okAp c k n f)) := by
  refine Ro.of ?_
  have H := Lib.hid h
  clear h
  have HU : Hid (okAp c k n f = (decide (1 ≤ c ∧ c ≤ 8) && (decide (1 ≤ k ∧ k ≤ c) && (decide (1 ≤ n ∧ n ≤ 9) && allB (fun i => isS (f i) c.toNat) n)))) := Lib.hid rfl
  by_cases hg : (1 ≤ c ∧ c ≤ 8) ∧ (1 ≤ k ∧ k ≤ c) ∧ (1 ≤ n ∧ n ≤ 9)
  · obtain ⟨⟨h1, h2⟩, ⟨h3, h4⟩, h5, h6⟩ := hg
    have HV : Hid (okAp c k n f = allB (fun i => isS (f i) c.toNat) n) := Lib.hid (by rw [HU.out, decide_eq_true ⟨h1, h2⟩, decide_eq_true ⟨h3, h4⟩, decide_eq_true ⟨h5, h6⟩, Bool.true_and, Bool.true_and, Bool.true_and])
    clear HU
    obtain ⟨C, rfl⟩ : ∃ C : Nat, c = (C : Int) := ⟨c.toNat, by omega⟩
    have HV2 : Hid (okAp (C : Int) k n f = allB (fun i => isS (f i) C) n) := HV
    clear HV
    go_enter Try.func29, Try.ntmps29
    go_wp2
    go_loopw [36] (fun i wr => ∃ j : Nat, j ≤ n ∧ i = .int .i64 j ∧ AllLt (fun i => isS (f i) C) j ∧ Dn w wr) (fun i _ => n - (intOf i).toNat)
    case atStart => exact ⟨0, Nat.zero_le _, rfl, AllLt.zero, Dn.refl _⟩
    case round =>
      obtain ⟨j, hj, rfl, hA, hD⟩ := hrel
      have HA := Lib.hid hA
      clear hA
      by_cases hlt : j < n
      · obtain ⟨b, o, rfl, hc⟩ := (H.out.dn hD).at hlt
        have HS := Lib.hid (isSet_any (f j) C (by omega) wr)
        go_wp2_with fail
        refine Ro.use HS.out ?_
        intro w3 hd3
        have HD := Lib.hid (hD.trans hd3)
        clear hd3 HS
        cases hb : isS (f j) C with
        | true =>
          have HN := Lib.hid (HA.out.succ (p := fun i => isS (f i) C) hb)
          clear hb
          go_wp2
          go_roundw
          case rel => exact ⟨j + 1, by omega, by go_num, HN.out, HD.out⟩
          case measure => simp [intOf]; omega
        | false =>
          have HF := Lib.hid (allB_f (p := fun i => isS (f i) C) hlt hb)
          clear hb
          go_wp2
          go_ret
          exact ⟨ret_bool (by rw [HV2.out, HF.out]), HD.out⟩
      · obtain rfl : j = n := by omega
        go_wp2
        go_ret
        exact ⟨ret_bool (by rw [HV2.out, allB_t HA.out]), hD⟩
  · have HV : Hid (okAp c k n f = false) := Lib.hid (by
      rw [HU.out]
      by_cases g1 : 1 ≤ c ∧ c ≤ 8
      · by_cases g2 : 1 ≤ k ∧ k ≤ c
        · rw [decide_eq_false (p := 1 ≤ n ∧ n ≤ 9) (fun h => hg ⟨g1, g2, h⟩), Bool.false_and, Bool.and_false, Bool.and_false]
        · rw [decide_eq_false g2, Bool.false_and, Bool.and_false]
      · rw [decide_eq_false g1, Bool.false_and])
    clear HU
    rcases Int.lt_or_le c 1 with a1 | a1
    · go_enter Try.func29, Try.ntmps29
      go_wp2
      go_ret
      exact ⟨ret_bool HV.out.symm, Dn.refl _⟩
    · rcases Int.lt_or_le 8 c with a2 | a2
      · go_enter Try.func29, Try.ntmps29
        go_wp2
        go_ret
        exact ⟨ret_bool HV.out.symm, Dn.refl _⟩
      · rcases Int.lt_or_le k 1 with a3 | a3
        · go_enter Try.func29, Try.ntmps29
          go_wp2
          go_ret
          exact ⟨ret_bool HV.out.symm, Dn.refl _⟩
        · rcases Int.lt_or_le c k with a4 | a4
          · go_enter Try.func29, Try.ntmps29
            go_wp2
            go_ret
            exact ⟨ret_bool HV.out.symm, Dn.refl _⟩
          · rcases Nat.lt_or_ge n 1 with a5 | a5
            · go_enter Try.func29, Try.ntmps29
              go_wp2
              go_ret
              exact ⟨ret_bool HV.out.symm, Dn.refl _⟩
            · have a6 : 9 < n := by
                apply Classical.byContradiction
                intro h
                exact hg ⟨⟨a1, a2⟩, ⟨a3, a4⟩, a5, by omega⟩
              clear hg
              go_enter Try.func29, Try.ntmps29
              go_wp2
              go_ret
              exact ⟨ret_bool HV.out.symm, Dn.refl _⟩

/-- The approvals as sets. -/
def Sets (n : Nat) (f : Nat → Int) (g : Nat → Nat) : Prop := ∀ i, i < n → f i = (g i : Int) ∧ g i < 256

set_option maxHeartbeats 1000000 in
set_option maxRecDepth 1000000 in
theorem score_any (A : Option Addr) (n cA set : Nat) (f : Nat → Int) (g : Nat → Nat) (w : World) (h : Ints w A n f) (hn : n ≤ 9) (hg : Sets n f g) (hs : set < 256) :
    Ro 31 #[.int .i64 set, .slice A n cA] w (.int .i64 (scN g set n : Nat)) := by
  refine Ro.of ?_
  have H := Lib.hid h
  have HG := Lib.hid hg
  clear h hg
  go_enter Try.func31, Try.ntmps31
  go_wp2
  go_loopw [5, 11] (fun s i wr => ∃ j : Nat, j ≤ n ∧ i = .int .i64 j ∧ s = .int .i64 (scN g set j : Nat) ∧ Dn w wr) (fun _ i _ => n - (intOf i).toNat)
  case atStart => exact ⟨0, Nat.zero_le _, rfl, rfl, Dn.refl _⟩
  case round =>
    obtain ⟨j, hj, rfl, rfl, hD⟩ := hrel
    have hsb := scN_bd g set j
    have HN : Hid (scN g set (j + 1) = scN g set j + hsN (pcN (g j &&& set))) := Lib.hid rfl
    by_cases hlt : j < n
    · generalize scN g set j = S at *
      obtain ⟨b, o, rfl, hc⟩ := (H.out.dn hD).at hlt
      obtain ⟨hfj, hgj⟩ := HG.out j hlt
      rw [hfj] at hc
      have han := and_nat (g j) set (by omega) (by omega)
      have hal : g j &&& set ≤ g j := Nat.and_le_left
      have hpc := pcN_bd (g j &&& set)
      generalize g j &&& set = t at *
      have HO := Lib.hid (ones_any t (by omega) wr)
      have hS : S ≤ 9 * 7560 := by omega
      clear hfj hsb
      go_wp2_with fail
      refine HO.out.mono ?_
      rintro e w3 ⟨rfl, rfl⟩
      clear han
      generalize hp : pcN t = p at *
      clear hp
      go_wp2
      go_loopw [5, 20] (fun s i wx => ∃ q : Nat, q ≤ p ∧ i = .int .i64 q ∧ s = .int .i64 ((S + hsN q : Nat) : Int) ∧ wr = wx) (fun _ i _ => p - (intOf i).toNat)
      case atStart => exact ⟨0, Nat.zero_le _, rfl, rfl, rfl⟩
      case round =>
        obtain ⟨q, hq, rfl, rfl, rfl⟩ := hrel
        have hb1 := hsN_bd q (by omega)
        have HN2 : Hid (hsN (q + 1) = hsN q + 840 / (q + 1)) := Lib.hid rfl
        by_cases hlq : q < p
        · generalize hsN q = R at *
          have hdiv : Int.tdiv 840 ((q : Int) + 1) = ((840 / (q + 1) : Nat) : Int) := by
            rw [Int.tdiv_eq_ediv_of_nonneg (by omega)]
            push_cast
            rfl
          have hd9 : 840 / (q + 1) ≤ 840 := Nat.div_le_self _ _
          generalize 840 / (q + 1) = dd at *
          go_wp2
          go_roundw
          case rel => exact ⟨q + 1, by omega, by go_num, by rw [HN2.out]; exact val_int (by omega), (by first | trivial | rfl)⟩
          case measure => simp [intOf]; omega
        · have hqp : q = p := by omega
          subst hqp
          go_wp2
          go_roundw
          case rel => exact ⟨j + 1, by omega, by go_num, (by first | (rw [HN.out]; done) | (rw [HN.out]; rfl)), hD⟩
          case measure => simp [intOf]; omega
    · have hjn : j = n := by omega
      go_wp2
      go_ret
      exact ⟨ret_int (by rw [← hjn]), hD⟩

theorem or_add : ∀ i : Nat, i < 9 → ∀ x : Nat, x < 2 ^ i → bits .or .i64 (x : Int) (((2 ^ i : Nat)) : Int) = ((x + 2 ^ i : Nat) : Int) := by decide +kernel

end Go.Proofs.Ytjomkbdelgnkcaa
