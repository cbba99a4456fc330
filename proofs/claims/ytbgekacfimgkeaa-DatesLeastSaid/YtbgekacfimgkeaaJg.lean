/- The reference's Most and Weigh. -/
import Derived.Test.YtbgekacfimgkeaaJf
namespace Go.Proofs.Ytbgekacfimgkeaa
open Go.RowKit

set_option maxHeartbeats 4000000 in
set_option maxRecDepth 1000000 in
theorem refM_any (A : Option Addr) (n c : Nat) (J : Nat → Nat → Int) (w : World) (h : Recs 4 w A n J) (hok : okJ n J = true) :
    Lr 28 #[.slice A n c] w (.int .i64 (hvF (wtS n (wtM J)) (fitB n J) (2 ^ n)).1) := by
  unfold Lr
  have H := Lib.hid h
  have HOk := Lib.hid hok
  obtain ⟨⟨h1, h8⟩, hJ⟩ := okJ_iff.1 hok
  have HWr := Lib.hid (fun s => wtS_rng (s := s) (wtM_rng hok))
  obtain ⟨P, hP⟩ : ∃ P, P = 2 ^ n := ⟨_, rfl⟩
  have hP256 : P ≤ 256 := by
    rw [hP]
    have := Nat.pow_le_pow_right (n := 2) (by omega) h8
    omega
  have HVr := Lib.hid (hvF_rng (g := wtS n (wtM J)) (fitB n J) (b := n * 20) (by omega) (fun s => ((HWr.out s) n (Nat.le_refl _)).2))
  have HVl := Lib.hid (hvF_le (wtS n (wtM J)) (fitB n J))
  have HV1 : Hid (∀ N, hvF (wtS n (wtM J)) (fitB n J) (N + 1) = if (hvF (wtS n (wtM J)) (fitB n J) N).2 < wtS n (wtM J) N ∧ fitB n J N = true then (N, wtS n (wtM J) N) else hvF (wtS n (wtM J)) (fitB n J) N) := Lib.hid (fun _ => rfl)
  have HWs : Hid (∀ s k, wtS (k + 1) (wtM J) s = wtS k (wtM J) s + if btN s k = true then wtM J k else 0) := Lib.hid (fun _ _ => rfl)
  have HW0 : Hid (∀ s, wtS 0 (wtM J) s = 0) := Lib.hid (fun _ => rfl)
  have HV0 : Hid (hvF (wtS n (wtM J)) (fitB n J) 0 = (0, 0)) := Lib.hid rfl
  have HWk : Hid (∀ k, wtM J k = 1) := Lib.hid (fun _ => rfl)
  have HWb := Lib.hid (wtM_rng hok)
  have HFt := Lib.hid (fun s w' (hb : Below w.heap.size w w') (hs : s < 256) => fits_any A n c s J w' (h.keep hb) hok hs)
  rw [← hP]
  have HW64 := Lib.hid (show wrap64 (2 ^ n) = (P : Int) by rw [hP]; exact pow_fit n h8)
  generalize wtM J = wt at *
  generalize fitB n J = fb at *
  clear h hok hJ hP
  go_enter Try.func28, Try.ntmps28
  go_wp2_with fail
  rw [HW64.out]
  go_loopw [3, 4, 11] (fun be mo i wr => ∃ s : Nat, s ≤ P ∧ i = .int .i64 s ∧ be = .int .i64 (hvF (wtS n wt) fb s).1 ∧ mo = .int .i64 (hvF (wtS n wt) fb s).2 ∧ Below w.heap.size w wr) (fun _ _ i _ => P - (intOf i).toNat)
  case atStart => exact ⟨0, Nat.zero_le _, rfl, by rw [HV0.out]; rfl, by rw [HV0.out], Below.refl _ _⟩
  case round =>
    obtain ⟨s, hs, rfl, rfl, rfl, hD⟩ := hrel
    have HD := Lib.hid hD
    clear hD
    have hmr := HVr.out s
    have hVs := Lib.hid (HV1.out s)
    have hbr := HVl.out s
    obtain ⟨mo, hmo⟩ : ∃ mo, mo = (hvF (wtS n wt) fb s).2 := ⟨_, rfl⟩
    obtain ⟨be, hbe⟩ : ∃ be, be = (hvF (wtS n wt) fb s).1 := ⟨_, rfl⟩
    have HMo := Lib.hid hmo
    have HBe := Lib.hid hbe
    rw [← hmo] at hmr ⊢
    rw [← hbe] at hbr ⊢
    have hmr20 : mo ≤ 160 := by omega
    have hmr0 := hmr.1
    clear hmo hbe hmr
    by_cases hlt : s < P
    · go_wp2_with fail
      go_loopw [6, 16] (fun su i wi => ∃ k : Nat, k ≤ n ∧ i = .int .i64 k ∧ su = .int .i64 (wtS k wt s) ∧ Below w.heap.size w wi) (fun _ i _ => n - (intOf i).toNat)
      case atStart => exact ⟨0, Nat.zero_le _, rfl, by rw [HW0.out], HD.out⟩
      case round =>
        obtain ⟨k, hk, rfl, rfl, hE⟩ := hrel
        have HE := Lib.hid hE
        clear hE
        have hwr := HWr.out s k hk
        obtain ⟨hwr0, hwr1⟩ := hwr
        by_cases hk2 : k < n
        · have hw1 : 0 ≤ wt k ∧ wt k ≤ 20 := HWb.out k hk2
          obtain ⟨hw10, hw11⟩ := hw1
          have hk8 : (k : Int) < 8 := by omega
          have hk64 : k < 64 := by omega
          have hW2 := Lib.hid (HWs.out s k)
          have hsu : wtS k wt s ≤ 160 := by omega
          have hbit := bit_and s k
          have hwk := HWk.out k
          generalize wtS k wt s = su at *
          cases hbt : btN s k with
          | false =>
            have HS2 := Lib.hid (show wtS (k + 1) wt s = su by rw [hW2.out, hbt]; simp)
            rw [hbt] at hbit
            simp only [Bool.false_eq_true, if_false] at hbit
            rw [hwk] at hw10 hw11
            clear hwk hbt
            go_wp2
            go_roundw
            case rel => exact ⟨k + 1, by omega, by go_num, by rw [HS2.out], HE.out⟩
            case measure => simp [intOf]; omega
          | true =>
            have HS2 := Lib.hid (show wtS (k + 1) wt s = su + 1 by rw [hW2.out, hbt, ← hwk]; simp)
            rw [hbt] at hbit
            simp only [if_true] at hbit
            rw [hwk] at hw10 hw11
            clear hwk hbt
            go_wp2
            go_roundw
            case rel => exact ⟨k + 1, by omega, by go_num, by rw [HS2.out], HE.out⟩
            case measure => simp [intOf]; omega
        · have hkn : n = k := by omega
          subst hkn
          have hsu : wtS n wt s ≤ 160 := by omega
          generalize hsm : wtS n wt s = su at *
          by_cases hgt : mo < su
          · go_wp2_with fail
            refine (HFt.out s wr HE.out (by omega)).use fun w5 hb5 => ?_
            have HE5 := Lib.hid (HE.out.trans (hb5.mono HE.out.size))
            clear hb5
            cases hfb : fb s with
            | true =>
              have HN := Lib.hid (show hvF (wtS n wt) fb (s + 1) = (s, su) by rw [hVs.out, ← HMo.out, hfb, if_pos ⟨hgt, rfl⟩])
              go_wp2
              go_roundw
              case rel => exact ⟨s + 1, by omega, by go_num, by rw [HN.out], by rw [HN.out], HE5.out⟩
              case measure => simp [intOf]; omega
            | false =>
              have HN := Lib.hid (show hvF (wtS n wt) fb (s + 1) = hvF (wtS n wt) fb s by rw [hVs.out, hfb, if_neg (by simp)])
              go_wp2
              go_roundw
              case rel => exact ⟨s + 1, by omega, by go_num, by rw [HN.out, ← HBe.out], by rw [HN.out, ← HMo.out], HE5.out⟩
              case measure => simp [intOf]; omega
          · have HN := Lib.hid (show hvF (wtS n wt) fb (s + 1) = hvF (wtS n wt) fb s by rw [hVs.out, ← HMo.out, if_neg (fun h => hgt h.1)])
            go_wp2
            go_roundw
            case rel => exact ⟨s + 1, by omega, by go_num, by rw [HN.out, ← HBe.out], by rw [HN.out, ← HMo.out], HE.out⟩
            case measure => simp [intOf]; omega
    · obtain rfl : s = P := by omega
      go_wp2
      go_ret
      exact ⟨by rw [← HBe.out]; rfl, HD.out⟩

set_option maxHeartbeats 4000000 in
set_option maxRecDepth 1000000 in
theorem refW_any (A : Option Addr) (n c : Nat) (J : Nat → Nat → Int) (w : World) (h : Recs 4 w A n J) (hok : okJ n J = true) :
    Lr 27 #[.slice A n c] w (.tuple #[.int .i64 (hvF (wtS n (wtW J)) (fitB n J) (2 ^ n)).1, .int .i64 (hvF (wtS n (wtW J)) (fitB n J) (2 ^ n)).2]) := by
  unfold Lr
  have H := Lib.hid h
  have HOk := Lib.hid hok
  obtain ⟨⟨h1, h8⟩, hJ⟩ := okJ_iff.1 hok
  have HWr := Lib.hid (fun s => wtS_rng (s := s) (wtW_rng hok))
  obtain ⟨P, hP⟩ : ∃ P, P = 2 ^ n := ⟨_, rfl⟩
  have hP256 : P ≤ 256 := by
    rw [hP]
    have := Nat.pow_le_pow_right (n := 2) (by omega) h8
    omega
  have HVr := Lib.hid (hvF_rng (g := wtS n (wtW J)) (fitB n J) (b := n * 20) (by omega) (fun s => ((HWr.out s) n (Nat.le_refl _)).2))
  have HVl := Lib.hid (hvF_le (wtS n (wtW J)) (fitB n J))
  have HV1 : Hid (∀ N, hvF (wtS n (wtW J)) (fitB n J) (N + 1) = if (hvF (wtS n (wtW J)) (fitB n J) N).2 < wtS n (wtW J) N ∧ fitB n J N = true then (N, wtS n (wtW J) N) else hvF (wtS n (wtW J)) (fitB n J) N) := Lib.hid (fun _ => rfl)
  have HWs : Hid (∀ s k, wtS (k + 1) (wtW J) s = wtS k (wtW J) s + if btN s k = true then wtW J k else 0) := Lib.hid (fun _ _ => rfl)
  have HW0 : Hid (∀ s, wtS 0 (wtW J) s = 0) := Lib.hid (fun _ => rfl)
  have HV0 : Hid (hvF (wtS n (wtW J)) (fitB n J) 0 = (0, 0)) := Lib.hid rfl
  have HWk : Hid (∀ k, wtW J k = J k 3) := Lib.hid (fun _ => rfl)
  have HWb := Lib.hid (wtW_rng hok)
  have HFt := Lib.hid (fun s w' (hb : Below w.heap.size w w') (hs : s < 256) => fits_any A n c s J w' (h.keep hb) hok hs)
  rw [← hP]
  have HW64 := Lib.hid (show wrap64 (2 ^ n) = (P : Int) by rw [hP]; exact pow_fit n h8)
  generalize wtW J = wt at *
  generalize fitB n J = fb at *
  clear h hok hJ hP
  go_enter Try.func27, Try.ntmps27
  go_wp2_with fail
  rw [HW64.out]
  go_loopw [4, 5, 13] (fun be mo i wr => ∃ s : Nat, s ≤ P ∧ i = .int .i64 s ∧ be = .int .i64 (hvF (wtS n wt) fb s).1 ∧ mo = .int .i64 (hvF (wtS n wt) fb s).2 ∧ Below w.heap.size w wr) (fun _ _ i _ => P - (intOf i).toNat)
  case atStart => exact ⟨0, Nat.zero_le _, rfl, by rw [HV0.out]; rfl, by rw [HV0.out], Below.refl _ _⟩
  case round =>
    obtain ⟨s, hs, rfl, rfl, rfl, hD⟩ := hrel
    have HD := Lib.hid hD
    clear hD
    have hmr := HVr.out s
    have hVs := Lib.hid (HV1.out s)
    have hbr := HVl.out s
    obtain ⟨mo, hmo⟩ : ∃ mo, mo = (hvF (wtS n wt) fb s).2 := ⟨_, rfl⟩
    obtain ⟨be, hbe⟩ : ∃ be, be = (hvF (wtS n wt) fb s).1 := ⟨_, rfl⟩
    have HMo := Lib.hid hmo
    have HBe := Lib.hid hbe
    rw [← hmo] at hmr ⊢
    rw [← hbe] at hbr ⊢
    have hmr20 : mo ≤ 160 := by omega
    have hmr0 := hmr.1
    clear hmo hbe hmr
    by_cases hlt : s < P
    · go_wp2_with fail
      go_loopw [7, 18] (fun su i wi => ∃ k : Nat, k ≤ n ∧ i = .int .i64 k ∧ su = .int .i64 (wtS k wt s) ∧ Below w.heap.size w wi) (fun _ i _ => n - (intOf i).toNat)
      case atStart => exact ⟨0, Nat.zero_le _, rfl, by rw [HW0.out], HD.out⟩
      case round =>
        obtain ⟨k, hk, rfl, rfl, hE⟩ := hrel
        have HE := Lib.hid hE
        clear hE
        have hwr := HWr.out s k hk
        obtain ⟨hwr0, hwr1⟩ := hwr
        by_cases hk2 : k < n
        · have hw1 : 0 ≤ wt k ∧ wt k ≤ 20 := HWb.out k hk2
          obtain ⟨hw10, hw11⟩ := hw1
          have hk8 : (k : Int) < 8 := by omega
          have hk64 : k < 64 := by omega
          have hW2 := Lib.hid (HWs.out s k)
          have hsu : wtS k wt s ≤ 160 := by omega
          have hbit := bit_and s k
          have hwk := HWk.out k
          obtain ⟨b, o, rfl, c0, c1, c2, c3⟩ := (H.out.keep HE.out).four hk2
          have HEa := Lib.hid (HE.out.alloc HE.out.size (.cells #[.int .i64 (J k 0), .int .i64 (J k 1), .int .i64 (J k 2), .int .i64 (J k 3)] 74))
          generalize wtS k wt s = su at *
          cases hbt : btN s k with
          | false =>
            have HS2 := Lib.hid (show wtS (k + 1) wt s = su by rw [hW2.out, hbt]; simp)
            rw [hbt] at hbit
            simp only [Bool.false_eq_true, if_false] at hbit
            rw [hwk] at hw10 hw11
            clear hwk hbt
            go_wp2_with fail
            go_quiet (fail)
            go_wp2
            go_roundw
            case rel => exact ⟨k + 1, by omega, by go_num, by rw [HS2.out], HEa.out.trans (((Dn.refl _).drewN _).below _)⟩
            case measure => simp [intOf]; omega
          | true =>
            have HS2 := Lib.hid (show wtS (k + 1) wt s = su + J k 3 by rw [hW2.out, hbt, ← hwk]; simp)
            rw [hbt] at hbit
            simp only [if_true] at hbit
            rw [hwk] at hw10 hw11
            clear hwk hbt
            go_wp2_with fail
            go_quiet (fail)
            go_wp2
            go_roundw
            case rel => exact ⟨k + 1, by omega, by go_num, by rw [HS2.out], HEa.out.trans (((Dn.refl _).drewN _).below _)⟩
            case measure => simp [intOf]; omega
        · have hkn : n = k := by omega
          subst hkn
          have hsu : wtS n wt s ≤ 160 := by omega
          generalize hsm : wtS n wt s = su at *
          by_cases hgt : mo < su
          · go_wp2_with fail
            refine (HFt.out s wr HE.out (by omega)).use fun w5 hb5 => ?_
            have HE5 := Lib.hid (HE.out.trans (hb5.mono HE.out.size))
            clear hb5
            cases hfb : fb s with
            | true =>
              have HN := Lib.hid (show hvF (wtS n wt) fb (s + 1) = (s, su) by rw [hVs.out, ← HMo.out, hfb, if_pos ⟨hgt, rfl⟩])
              go_wp2
              go_roundw
              case rel => exact ⟨s + 1, by omega, by go_num, by rw [HN.out], by rw [HN.out], HE5.out⟩
              case measure => simp [intOf]; omega
            | false =>
              have HN := Lib.hid (show hvF (wtS n wt) fb (s + 1) = hvF (wtS n wt) fb s by rw [hVs.out, hfb, if_neg (by simp)])
              go_wp2
              go_roundw
              case rel => exact ⟨s + 1, by omega, by go_num, by rw [HN.out, ← HBe.out], by rw [HN.out, ← HMo.out], HE5.out⟩
              case measure => simp [intOf]; omega
          · have HN := Lib.hid (show hvF (wtS n wt) fb (s + 1) = hvF (wtS n wt) fb s by rw [hVs.out, ← HMo.out, if_neg (fun h => hgt h.1)])
            go_wp2
            go_roundw
            case rel => exact ⟨s + 1, by omega, by go_num, by rw [HN.out, ← HBe.out], by rw [HN.out, ← HMo.out], HE.out⟩
            case measure => simp [intOf]; omega
    · obtain rfl : s = P := by omega
      go_wp2
      go_returns
      exact ⟨by rw [← HBe.out, ← HMo.out]; rfl, HD.out⟩
end Go.Proofs.Ytbgekacfimgkeaa
