/- Group: the program. -/
import Derived.Test.YtahoolibnpbofaaCq
namespace Go.Proofs.Ytahoolibnpbofaa
open Go.RowKit

theorem gpF_yes {g : Nat → Nat} {k n cm a : Nat} (h1 : n ≤ pcN (woN g a cm n) * k) (h2 : (gpF g k n cm a).2 < pcN (woN g a cm n) ∨ (pcN (woN g a cm n) = (gpF g k n cm a).2 ∧ woN g a cm n < (gpF g k n cm a).1)) : gpF g k n cm (a + 1) = (woN g a cm n, pcN (woN g a cm n)) := by
  simp only [gpF]
  rw [if_pos ⟨h1, h2⟩]
theorem gpF_no {g : Nat → Nat} {k n cm a : Nat} (h : ¬ (n ≤ pcN (woN g a cm n) * k ∧ ((gpF g k n cm a).2 < pcN (woN g a cm n) ∨ (pcN (woN g a cm n) = (gpF g k n cm a).2 ∧ woN g a cm n < (gpF g k n cm a).1)))) : gpF g k n cm (a + 1) = gpF g k n cm a := by
  simp only [gpF]
  rw [if_neg h]
def gpV (r : Nat × Nat) : Value := if r.2 = 0 then .tuple #[.int .i64 0, .int .i64 4] else .tuple #[.int .i64 r.1, .int .i64 0]

set_option maxHeartbeats 2000000 in
set_option maxRecDepth 1000000 in
theorem Group_ok (c k : Nat) (A : Option Addr) (n cA cm : Nat) (f : Nat → Int) (g : Nat → Nat) (w : World) (h : Ints w A n f) (hn : n ≤ 9) (hg : Sets n f g) (hc : c ≤ 8) (hk : k ≤ 8) (hok : okAp c k n f = true) (hcm : isCm cm c k = true) :
    Ro 33 #[.int .i64 c, .int .i64 k, .slice A n cA, .int .i64 cm] w (gpV (gpF g k n cm c)) := by
  refine Ro.of ?_
  have HA := approvals_any c k A n cA f w h (by omega)
  rw [hok] at HA
  have HA2 := Lib.hid HA
  unfold isCm at hcm
  rw [Bool.and_eq_true, decide_eq_true_iff] at hcm
  obtain ⟨hs, hpk⟩ := hcm
  have HI : Hid (∀ w' : World, Ro 65 #[.int .i64 cm, .int .i64 c] w' (.bool true)) := Lib.hid (fun w' => by have := isSet_any cm c hc w'; rwa [hs] at this)
  have hcm : cm < 256 := by
    unfold isS at hs
    rw [Bool.and_eq_true, decide_eq_true_iff, decide_eq_true_iff] at hs
    have hM : 2 ^ c ≤ 256 := by
      have : 2 ^ c ≤ 2 ^ 8 := Nat.pow_le_pow_right (by omega) hc
      omega
    omega
  rw [Int.toNat_natCast] at hpk
  have HO : Hid (∀ w' : World, Calls Try.prog 63 #[.int .u64 cm] w' fun e w'' => e = .returned (.int .i64 (k : Nat)) ∧ w' = w'') := Lib.hid (fun w' => by have := ones_any cm (by omega) w'; rwa [hpk] at this)
  have HW : Hid (∀ (a : Nat) (w' : World), a < 8 → Dn w w' → Ro 66 #[.slice A n cA, .int .i64 a, .int .i64 cm] w' (.int .i64 (woN g a cm n : Nat))) := Lib.hid (fun a w' ha hd => without_any A n cA a cm f g w' (h.dn hd) hn hg (by omega) hcm)
  have HWl : Hid (∀ a, woN g a cm n < 512) := Lib.hid (fun a => by
    have h1 := woN_lt g a cm n
    have : 2 ^ n ≤ 2 ^ 9 := Nat.pow_le_pow_right (by omega) hn
    omega)
  have hu : IntKind.u64.wrap (cm : Int) = (cm : Int) := by
    rw [IntKind.wrap_u64]
    omega
  have hbn := bne_f (a := ((k : Nat) : Int)) rfl
  clear h hok HA hg hs hpk
  go_enter Try.func33, Try.ntmps33
  go_wp2_with fail
  refine Ro.use HA2.out ?_
  intro w2 hd2
  go_wp2_with fail
  refine Ro.use (HI.out w2) ?_
  intro w3 hd3
  have HD3 := Lib.hid (hd2.trans hd3)
  clear hd2 hd3 HI HA2
  go_wp2_with fail
  refine (HO.out w3).mono ?_
  rintro e w4 ⟨rfl, rfl⟩
  go_wp2
  clear hu hbn
  go_loopw [10, 11, 34] (fun x y i wr => ∃ a : Nat, a ≤ c ∧ i = .int .i64 a ∧ x = .int .i64 ((gpF g k n cm a).1 : Nat) ∧ y = .int .i64 ((gpF g k n cm a).2 : Nat) ∧ Dn w wr) (fun _ _ i _ => c - (intOf i).toNat)
  case atStart => exact ⟨0, Nat.zero_le _, rfl, rfl, rfl, HD3.out⟩
  case round =>
    obtain ⟨a, ha, rfl, rfl, rfl, hD⟩ := hrel
    have HD := Lib.hid hD
    clear hD
    by_cases hlt : a < c
    · have HYes := Lib.hid (fun h1 h2 => gpF_yes (g := g) (k := k) (n := n) (cm := cm) (a := a) h1 h2)
      have HNo := Lib.hid (fun h => gpF_no (g := g) (k := k) (n := n) (cm := cm) (a := a) h)
      have HWo := Lib.hid (HW.out a wr (by omega) HD.out)
      have hwl := HWl.out a
      generalize gpF g k n cm a = r at *
      generalize woN g a cm n = W at *
      obtain ⟨b0, m0⟩ := r
      have hu : IntKind.u64.wrap (W : Int) = (W : Int) := by
        rw [IntKind.wrap_u64]
        omega
      have hp9 := pcN_bd W
      go_wp2_with fail
      refine Ro.use HWo.out ?_
      intro w5 hd5
      have HD5 := Lib.hid (HD.out.trans hd5)
      clear hd5 HWo
      have HOw := Lib.hid (ones_any W hwl w5)
      generalize pcN W = p at *
      have hmul : wrap64 ((p : Int) * (k : Int)) = ((p * k : Nat) : Int) := by
        have e : ((p * k : Nat) : Int) = (p : Int) * (k : Int) := by push_cast; rfl
        have h1 : p * k ≤ 9 * 8 := Nat.mul_le_mul hp9 hk
        rw [← e]
        exact IntWalk.wrap64_in _ ⟨by omega, by omega⟩
      generalize p * k = pk at *
      go_wp2_with fail
      refine HOw.out.mono ?_
      rintro e w6 ⟨rfl, rfl⟩
      clear hu
      rcases Nat.lt_or_ge pk n with h1 | h1
      · have HE := Lib.hid (HNo.out (fun q => by omega))
        have d1 : decide (((n : Nat) : Int) ≤ (pk : Int)) = false := decide_eq_false (by omega)
        go_wp2
        go_roundw
        case rel => exact ⟨a + 1, by omega, by go_num, by rw [HE.out], by rw [HE.out], HD5.out⟩
        case measure => simp [intOf]; omega
      · rcases Nat.lt_trichotomy m0 p with h2 | h2 | h2
        · have HE := Lib.hid (HYes.out h1 (.inl h2))
          go_wp2
          go_roundw
          case rel => exact ⟨a + 1, by omega, by go_num, by rw [HE.out], by rw [HE.out], HD5.out⟩
          case measure => simp [intOf]; omega
        · rcases Nat.lt_or_ge W b0 with h3 | h3
          · have HE := Lib.hid (HYes.out h1 (.inr ⟨h2.symm, h3⟩))
            have e1 : ¬ (m0 : Int) < (p : Int) := by omega
            have e2 := beq_t (a := (p : Int)) (b := (m0 : Int)) (by omega)
            clear h2
            go_wp2
            go_roundw
            case rel => exact ⟨a + 1, by omega, by go_num, by rw [HE.out], by rw [HE.out], HD5.out⟩
            case measure => simp [intOf]; omega
          · have HE := Lib.hid (HNo.out (fun q => by omega))
            have e1 : ¬ (m0 : Int) < (p : Int) := by omega
            have e2 := beq_t (a := (p : Int)) (b := (m0 : Int)) (by omega)
            have e3 : ¬ (W : Int) < (b0 : Int) := by omega
            clear h2
            go_wp2
            go_roundw
            case rel => exact ⟨a + 1, by omega, by go_num, by rw [HE.out], by rw [HE.out], HD5.out⟩
            case measure => simp [intOf]; omega
        · have HE := Lib.hid (HNo.out (fun q => by omega))
          have e1 : ¬ (m0 : Int) < (p : Int) := by omega
          have e2 := beq_f (a := (p : Int)) (b := (m0 : Int)) (by omega)
          go_wp2
          go_roundw
          case rel => exact ⟨a + 1, by omega, by go_num, by rw [HE.out], by rw [HE.out], HD5.out⟩
          case measure => simp [intOf]; omega
    · have hac : a = c := by omega
      rw [hac]
      clear hac hlt ha
      generalize hr : gpF g k n cm c = r at *
      obtain ⟨b0, m0⟩ := r
      have HRr := Lib.hid hr
      clear hr
      rcases Nat.eq_zero_or_pos m0 with h0 | h0
      · have HV : Hid (gpV (gpF g k n cm c) = .tuple #[.int .i64 0, .int .i64 4]) := Lib.hid (by rw [HRr.out]; unfold gpV; rw [if_pos h0])
        have e2 := beq_t (a := (m0 : Int)) (b := 0) (by omega)
        go_wp2
        go_ret2
        exact ⟨congrArg Ending.returned HV.out.symm, HD.out⟩
      · have HV : Hid (gpV (gpF g k n cm c) = .tuple #[.int .i64 (b0 : Nat), .int .i64 0]) := Lib.hid (by rw [HRr.out]; unfold gpV; rw [if_neg (by show ¬ m0 = 0; omega)])
        have e2 := beq_f (a := (m0 : Int)) (b := 0) (by omega)
        go_wp2
        go_ret2
        exact ⟨congrArg Ending.returned HV.out.symm, HD.out⟩
end Go.Proofs.Ytahoolibnpbofaa
