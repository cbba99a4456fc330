/- The reference: Committee, Blocks, Group. -/
import Derived.Test.YtahoolibnpbofaaCu
namespace Go.Proofs.Ytahoolibnpbofaa
open Go.RowKit

def bestR : Option Nat → Int
  | none => -1
  | some b => b

set_option maxHeartbeats 1000000 in
set_option maxRecDepth 1000000 in
theorem rCommittee_any (c k : Nat) (A : Option Addr) (n cA : Nat) (f : Nat → Int) (g : Nat → Nat) (w : World) (h : Ints w A n f) (hn : n ≤ 9) (hg : Sets n f g) (hc : c ≤ 8) :
    Ro 35 #[.int .i64 c, .int .i64 k, .slice A n cA] w (.int .i64 (bestR (cmF g n k (2 ^ c)))) := by
  refine Ro.of ?_
  have HSc : Hid (∀ (set : Nat) (w' : World), set < 256 → Dn w w' → Ro 67 #[.slice A n cA, .int .i64 set] w' (.int .i64 (scN g set n : Nat))) := Lib.hid (fun set w' hs hd => rScore_any A n cA set f g w' (h.dn hd) hn hg hs)
  have hpw := pow_wrap c (by omega)
  have HCm : Hid (∀ (t : Nat) (w' : World), t < 2 ^ c → Ro 36 #[.int .i64 c, .int .i64 k, .int .i64 t] w' (.bool (decide (pcN t = k)))) := Lib.hid (fun t w' ht => by
    have := isCommittee_any c k (t : Int) hc w'
    have e : isCm (t : Int) c k = decide (pcN t = k) := by
      unfold isCm isS
      rw [decide_eq_true (p := (0 : Int) ≤ (t : Int)) (by omega), decide_eq_true (p := (t : Int) < ((2 ^ c : Nat) : Int)) (by omega), Int.toNat_natCast]
      rfl
    rwa [e] at this)
  have HLt : Hid (∀ t b, cmF g n k t = some b → b < t) := Lib.hid (fun t b hb => cmF_lt g n k t b hb)
  have hM : 2 ^ c ≤ 256 := by
    have : 2 ^ c ≤ 2 ^ 8 := Nat.pow_le_pow_right (by omega) hc
    omega
  clear h hg
  generalize 2 ^ c = M at *
  go_enter Try.func35, Try.ntmps35
  go_wp2_with fail
  rw [hpw]
  clear hpw
  go_loopw [7, 11] (fun x i wr => ∃ t : Nat, t ≤ M ∧ i = .int .i64 t ∧ x = .int .i64 (bestR (cmF g n k t)) ∧ Dn w wr) (fun _ i _ => M - (intOf i).toNat)
  case atStart => exact ⟨0, Nat.zero_le _, rfl, rfl, Dn.refl _⟩
  case round =>
    obtain ⟨t, ht, rfl, rfl, hD⟩ := hrel
    have HD := Lib.hid hD
    clear hD
    by_cases hlt : t < M
    · have HY : Hid (pcN t = k → mostV g n (cmF g n k t) < (scN g t n : Nat) → cmF g n k (t + 1) = some t) := Lib.hid cmF_yes
      have HNo : Hid (¬ (pcN t = k ∧ mostV g n (cmF g n k t) < (scN g t n : Nat)) → cmF g n k (t + 1) = cmF g n k t) := Lib.hid cmF_no
      have HI := Lib.hid (HCm.out t wr hlt)
      cases hr : cmF g n k t with
      | none =>
        rw [hr] at HY HNo
        have HBn : Hid (bestR none = -1) := Lib.hid rfl
        by_cases hpk : pcN t = k
        · rw [decide_eq_true hpk] at HI
          have HE : Hid (cmF g n k (t + 1) = some t) := Lib.hid (HY.out hpk (by show (-1 : Int) < _; omega))
          rw [HBn.out]
          clear hpk hr
          go_wp2_with fail
          refine Ro.use HI.out ?_
          intro w3 hd3
          have HD3 := Lib.hid (HD.out.trans hd3)
          clear hd3
          go_wp2
          go_roundw
          case rel => exact ⟨t + 1, by omega, by go_num, by rw [HE.out]; rfl, HD3.out⟩
          case measure => simp [intOf]; omega
        · rw [decide_eq_false hpk] at HI
          have HE : Hid (cmF g n k (t + 1) = none) := Lib.hid (HNo.out (fun q => hpk q.1))
          clear hpk hr
          go_wp2_with fail
          refine Ro.use HI.out ?_
          intro w3 hd3
          have HD3 := Lib.hid (HD.out.trans hd3)
          clear hd3
          go_wp2
          go_roundw
          case rel => exact ⟨t + 1, by omega, by go_num, by rw [HE.out], HD3.out⟩
          case measure => simp [intOf]; omega
      | some b =>
        rw [hr] at HY HNo
        have hbt := HLt.out t b hr
        have HBn : Hid (bestR (some b) = (b : Int)) := Lib.hid rfl
        have HM : Hid (mostV g n (some b) = (scN g b n : Nat)) := Lib.hid rfl
        by_cases hpk : pcN t = k
        · rw [decide_eq_true hpk] at HI
          have HS1 : Hid (∀ w', Dn w w' → Ro 67 #[.slice A n cA, .int .i64 t] w' (.int .i64 (scN g t n : Nat))) := Lib.hid (fun w' hd => HSc.out t w' (by omega) hd)
          have HS2 : Hid (∀ w', Dn w w' → Ro 67 #[.slice A n cA, .int .i64 b] w' (.int .i64 (scN g b n : Nat))) := Lib.hid (fun w' hd => HSc.out b w' (by omega) hd)
          have hE : (scN g b n < scN g t n → cmF g n k (t + 1) = some t) ∧ (¬ scN g b n < scN g t n → cmF g n k (t + 1) = some b) := ⟨fun h => HY.out hpk (by rw [HM.out]; omega), fun h => HNo.out (fun q => by have := q.2; rw [HM.out] at this; omega)⟩
          have HE := Lib.hid hE
          rw [HBn.out]
          clear hpk hr hE HY HNo HM
          generalize scN g t n = s1 at *
          generalize scN g b n = s2 at *
          have hb0 : ¬ (b : Int) < 0 := by omega
          go_wp2_with fail
          refine Ro.use HI.out ?_
          intro w3 hd3
          have HD3 := Lib.hid (HD.out.trans hd3)
          clear hd3
          go_wp2_with fail
          refine Ro.use (HS1.out _ HD3.out) ?_
          intro w4 hd4
          have HD4 := Lib.hid (HD3.out.trans hd4)
          clear hd4
          go_wp2_with fail
          refine Ro.use (HS2.out _ HD4.out) ?_
          intro w5 hd5
          have HD5 := Lib.hid (HD4.out.trans hd5)
          clear hd5
          rcases Nat.lt_or_ge s2 s1 with hs | hs
          · have HE1 := Lib.hid (HE.out.1 hs)
            go_wp2
            go_roundw
            case rel => exact ⟨t + 1, by omega, by go_num, by rw [HE1.out]; rfl, HD5.out⟩
            case measure => simp [intOf]; omega
          · have HE1 := Lib.hid (HE.out.2 (by omega))
            have hs' : ¬ (s2 : Int) < (s1 : Int) := by omega
            go_wp2
            go_roundw
            case rel => exact ⟨t + 1, by omega, by go_num, by rw [HE1.out]; rfl, HD5.out⟩
            case measure => simp [intOf]; omega
        · rw [decide_eq_false hpk] at HI
          have HE : Hid (cmF g n k (t + 1) = some b) := Lib.hid (HNo.out (fun q => hpk q.1))
          clear hpk hr
          go_wp2_with fail
          refine Ro.use HI.out ?_
          intro w3 hd3
          have HD3 := Lib.hid (HD.out.trans hd3)
          clear hd3
          go_wp2
          go_roundw
          case rel => exact ⟨t + 1, by omega, by go_num, by rw [HE.out], HD3.out⟩
          case measure => simp [intOf]; omega
    · obtain rfl : t = M := by omega
      go_wp2
      go_ret
      exact ⟨rfl, HD.out⟩

/-- What the members of a group have in common. -/
def cmnN (g : Nat → Nat) (c gr : Nat) : Nat → Nat
  | 0 => 2 ^ c - 1
  | i + 1 => if bitN gr i then cmnN g c gr i &&& g i else cmnN g c gr i
theorem bitN_test (s a : Nat) : bitN s a = s.testBit a := by
  unfold bitN
  rw [Nat.testBit_eq_decide_div_mod_eq]
theorem bitN_and (x y a : Nat) : bitN (x &&& y) a = (bitN x a && bitN y a) := by
  rw [bitN_test, bitN_test, bitN_test, Nat.testBit_and]
theorem cmnN_lt (g : Nat → Nat) (c gr : Nat) : ∀ n, cmnN g c gr n < 2 ^ c := by
  intro n
  induction n with
  | zero =>
    have : 0 < 2 ^ c := Nat.pow_pos (by omega)
    show 2 ^ c - 1 < 2 ^ c
    omega
  | succ n ih =>
    simp only [cmnN]
    split
    · exact Nat.lt_of_le_of_lt Nat.and_le_left ih
    · exact ih
theorem full_bit : ∀ c, c < 9 → ∀ a, a < c → bitN (2 ^ c - 1) a = true := by decide +kernel
theorem some_bit : ∀ c, c < 9 → ∀ x, x < 2 ^ c → (0 < x ↔ anyB (bitN x) c = true) := by decide +kernel
theorem cmnN_bit {g : Nat → Nat} {c gr a : Nat} (hc : c < 9) (ha : a < c) : ∀ n, bitN (cmnN g c gr n) a = true ↔ ∀ i, i < n → bitN gr i = true → bitN (g i) a = true := by
  intro n
  induction n with
  | zero => exact ⟨fun _ i hi => absurd hi (by omega), fun _ => full_bit c hc a ha⟩
  | succ n ih =>
    simp only [cmnN]
    cases hb : bitN gr n with
    | true =>
      rw [if_pos rfl, bitN_and, Bool.and_eq_true, ih]
      constructor
      · rintro ⟨h1, h2⟩ i hi hbi
        rcases Nat.lt_or_ge i n with hl | hl
        · exact h1 i hl hbi
        · obtain rfl : i = n := by omega
          exact h2
      · intro h
        exact ⟨fun i hi hbi => h i (by omega) hbi, h n (by omega) hb⟩
    | false =>
      rw [if_neg (by simp), ih]
      constructor
      · intro h1 i hi hbi
        rcases Nat.lt_or_ge i n with hl | hl
        · exact h1 i hl hbi
        · obtain rfl : i = n := by omega
          rw [hb] at hbi
          cases hbi
      · intro h i hi hbi
        exact h i (by omega) hbi
def whoP (g : Nat → Nat) (cm gr i : Nat) : Bool := !(bitN gr i && !decide (g i &&& cm = 0))
def blkB (g : Nat → Nat) (c k n cm gr : Nat) : Bool := allB (whoP g cm gr) n && (decide (0 < gr) && (decide (0 < cmnN g c gr n) && decide (n ≤ pcN gr * k)))
theorem blkB_iff {g : Nat → Nat} {c k n cm gr : Nat} (hc : c < 9) : blkB g c k n cm gr = true ↔ BlkG g c k n cm gr := by
  unfold blkB
  rw [Bool.and_eq_true, Bool.and_eq_true, Bool.and_eq_true, decide_eq_true_iff, decide_eq_true_iff, decide_eq_true_iff, allB_iff, some_bit c hc _ (cmnN_lt g c gr n), anyB_iff]
  constructor
  · rintro ⟨h1, h2, ⟨a, ha, h3⟩, h4⟩
    refine ⟨h2, fun i hi hb => ?_, ⟨a, ha, (cmnN_bit hc ha n).1 h3⟩, h4⟩
    have := h1 i hi
    unfold whoP at this
    rw [hb] at this
    simpa using this
  · rintro ⟨h2, h1, ⟨a, ha, h3⟩, h4⟩
    refine ⟨fun i hi => ?_, h2, ⟨a, ha, (cmnN_bit hc ha n).2 h3⟩, h4⟩
    unfold whoP
    cases hb : bitN gr i with
    | false => rfl
    | true => rw [h1 i hi hb]; rfl
end Go.Proofs.Ytahoolibnpbofaa
