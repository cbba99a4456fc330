/- heaviest; Most; Weigh. -/
import Derived.Test.YtbgekacfimgkeaaJc
namespace Go.Proofs.Ytbgekacfimgkeaa
open Go.RowKit

theorem shl_one8 (m : Nat) (hm : m ≤ 8) (w : World) : (binOp .shl 3 (.int .i64 1) (.int .i64 m)).run Try.prog w = .ok (.int .i64 ((2 ^ m : Nat) : Int)) w := by
  have : m = 0 ∨ m = 1 ∨ m = 2 ∨ m = 3 ∨ m = 4 ∨ m = 5 ∨ m = 6 ∨ m = 7 ∨ m = 8 := by omega
  rcases this with rfl | rfl | rfl | rfl | rfl | rfl | rfl | rfl | rfl <;> rfl

def wtM (_ : Nat → Nat → Int) : Nat → Int := fun _ => 1
def wtW (J : Nat → Nat → Int) : Nat → Int := fun k => J k 3
theorem wtM_any (J : Nat → Nat → Int) (k : Nat) (w : World) : Lr 58 #[.agg #[.int .i64 (J k 0), .int .i64 (J k 1), .int .i64 (J k 2), .int .i64 (J k 3)]] w (.int .i64 (wtM J k)) := by
  unfold Lr
  go_enter Try.func58, Try.ntmps58
  go_wp2
  go_ret
  first | exact ⟨rfl, Below.refl _ _⟩ | exact ⟨rfl, (Below.refl _ _).alloc (Nat.le_refl _) _⟩
theorem wtW_any (J : Nat → Nat → Int) (k : Nat) (w : World) : Lr 59 #[.agg #[.int .i64 (J k 0), .int .i64 (J k 1), .int .i64 (J k 2), .int .i64 (J k 3)]] w (.int .i64 (wtW J k)) := by
  unfold Lr
  go_enter Try.func59, Try.ntmps59
  go_wp2
  go_ret
  first | exact ⟨rfl, Below.refl _ _⟩ | exact ⟨rfl, (Below.refl _ _).alloc (Nat.le_refl _) _⟩
theorem wtM_rng {n : Nat} {J : Nat → Nat → Int} (_ : okJ n J = true) : ∀ k, k < n → 0 ≤ wtM J k ∧ wtM J k ≤ (20 : Nat) := fun k _ => ⟨by show (0 : Int) ≤ 1; omega, by show (1 : Int) ≤ _; omega⟩
theorem wtW_rng {n : Nat} {J : Nat → Nat → Int} (h : okJ n J = true) : ∀ k, k < n → 0 ≤ wtW J k ∧ wtW J k ≤ (20 : Nat) := fun k hk => ((okJ_iff.1 h).2 k hk).2.2.2

set_option maxHeartbeats 4000000 in
set_option maxRecDepth 1000000 in
theorem heavyM (A : Option Addr) (n c : Nat) (J : Nat → Nat → Int) (w : World) (h : Recs 4 w A n J) (hok : okJ n J = true) :
    Lr 57 #[.slice A n c, .func (.func 58) #[] #[]] w (.tuple #[.int .i64 (hvF (wtS n (wtM J)) (fitB n J) (2 ^ n)).1, .int .i64 (hvF (wtS n (wtM J)) (fitB n J) (2 ^ n)).2]) := by
  unfold Lr
  have H := Lib.hid h
  have HOk := Lib.hid hok
  obtain ⟨⟨h1, h8⟩, hJ⟩ := okJ_iff.1 hok
  have HWr := Lib.hid (fun s => wtS_rng (s := s) (wtM_rng hok))
  obtain ⟨P, hP⟩ : ∃ P, P = 2 ^ n := ⟨_, rfl⟩
  have hP256 : P ≤ 256 := by
    rw [hP]
    have := Nat.pow_le_pow_right (n := 2) (by omega) h8
    omega
  have HVr := Lib.hid (hvF_rng (g := wtS n (wtM J)) (fitB n J) (b := n * 20) (by omega) (fun s => ((HWr.out s) n (Nat.le_refl _)).2))
  have HVl := Lib.hid (hvF_le (wtS n (wtM J)) (fitB n J))
  have HV1 : Hid (∀ N, hvF (wtS n (wtM J)) (fitB n J) (N + 1) = if (hvF (wtS n (wtM J)) (fitB n J) N).2 < wtS n (wtM J) N ∧ fitB n J N = true then (N, wtS n (wtM J) N) else hvF (wtS n (wtM J)) (fitB n J) N) := Lib.hid (fun _ => rfl)
  have HWs : Hid (∀ s k, wtS (k + 1) (wtM J) s = wtS k (wtM J) s + if btN s k = true then wtM J k else 0) := Lib.hid (fun _ _ => rfl)
  have HW0 : Hid (∀ s, wtS 0 (wtM J) s = 0) := Lib.hid (fun _ => rfl)
  have HV0 : Hid (hvF (wtS n (wtM J)) (fitB n J) 0 = (0, 0)) := Lib.hid rfl
  have HK := Lib.hid (fun k w => wtM_any J k w)
  have HWb := Lib.hid (wtM_rng hok)
  have HFit := Lib.hid (fun (f : Nat → Int) (s : Nat) (hp : (lst n f).Perm (lst n (fun k => (k : Int)))) (hs : Srt (fun x => J x.toNat 2) f n) => onT_fit (s := s) hp hs (fun k hk => by have := (hJ k hk).1; omega))
  rw [← hP]
  have hw64 : wrap64 (2 ^ n) = (P : Int) := by
    have e : (2 : Int) ^ n = (P : Int) := by rw [hP]; push_cast; rfl
    rw [e]
    unfold wrap64
    omega
  generalize wtM J = wt at *
  generalize fitB n J = fb at *
  have HW64 := Lib.hid hw64
  clear h hok hJ hP hw64
  go_enter Try.func57, Try.ntmps57
  go_wp2_with fail
  refine (inOrder_any A n c J w H.out HOk.out).mono ?_
  rintro e w1 ⟨g, cap, f, rfl, hR, hPm, hS, hb⟩
  have HR := Lib.hid hR
  have HPm := Lib.hid hPm
  have HOt := Lib.hid (fun s => HFit.out f s hPm hS)
  have HB1 := Lib.hid hb
  have Hfr := Lib.hid (fun a (ha : a < n) => perm_rng hPm ha)
  clear hR hPm hS hb
  go_wp2_with fail
  rw [HW64.out]
  go_loopw [7, 8, 18] (fun be mo i wr => ∃ s : Nat, s ≤ P ∧ i = .int .i64 s ∧ be = .int .i64 (hvF (wtS n wt) fb s).1 ∧ mo = .int .i64 (hvF (wtS n wt) fb s).2 ∧ Below w1.heap.size w1 wr) (fun _ _ i _ => P - (intOf i).toNat)
  case atStart => exact ⟨0, Nat.zero_le _, rfl, by rw [HV0.out]; rfl, by rw [HV0.out], Below.refl _ _⟩
  case round =>
    obtain ⟨s, hs, rfl, rfl, rfl, hD⟩ := hrel
    have HD := Lib.hid hD
    clear hD
    have hmr := HVr.out s
    have hVs := Lib.hid (HV1.out s)
    have hbr := HVl.out s
    obtain ⟨mo, hmo⟩ : ∃ mo, mo = (hvF (wtS n wt) fb s).2 := ⟨_, rfl⟩
    obtain ⟨be, hbe⟩ : ∃ be, be = (hvF (wtS n wt) fb s).1 := ⟨_, rfl⟩
    have HMo := Lib.hid hmo
    have HBe := Lib.hid hbe
    rw [← hmo] at hmr ⊢
    rw [← hbe] at hbr ⊢
    have hmr20 : mo ≤ 160 := by omega
    have hmr0 := hmr.1
    clear hmo hbe hmr
    by_cases hlt : s < P
    · go_wp2_with fail
      go_loopw [10, 23] (fun su i wi => ∃ k : Nat, k ≤ n ∧ i = .int .i64 k ∧ su = .int .i64 (wtS k wt s) ∧ Below w1.heap.size w1 wi) (fun _ i _ => n - (intOf i).toNat)
      case atStart => exact ⟨0, Nat.zero_le _, rfl, by rw [HW0.out], HD.out⟩
      case round =>
        obtain ⟨k, hk, rfl, rfl, hE⟩ := hrel
        have HE := Lib.hid hE
        have HBw := Lib.hid (HB1.out.trans (hE.mono HB1.out.size))
        clear hE
        have hwr := HWr.out s k hk
        obtain ⟨hwr0, hwr1⟩ := hwr
        by_cases hk2 : k < n
        · obtain ⟨b, o, rfl, c0, c1, c2, c3⟩ := (H.out.keep HBw.out).four hk2
          have hw1 : 0 ≤ wt k ∧ wt k ≤ 20 := HWb.out k hk2
          obtain ⟨hw10, hw11⟩ := hw1
          have hk8 : (k : Int) < 8 := by omega
          have hW2 := Lib.hid (HWs.out s k)
          have HEa := Lib.hid (HE.out.alloc HE.out.size (.cells #[.int .i64 (J k 0), .int .i64 (J k 1), .int .i64 (J k 2), .int .i64 (J k 3)] 83))
          have hsu : wtS k wt s ≤ 160 := by omega
          generalize wtS k wt s = su at *
          go_wp2_with fail
          refine (hasD_any s k (by omega) _).mono ?_
          rintro e w4 ⟨rfl, rfl⟩
          cases hbt : btN s k with
          | false =>
            have HS2 := Lib.hid (show wtS (k + 1) wt s = su by rw [hW2.out, hbt]; simp)
            go_wp2
            go_roundw
            case rel => exact ⟨k + 1, by omega, by go_num, by rw [HS2.out], HEa.out⟩
            case measure => simp [intOf]; omega
          | true =>
            have HS2 := Lib.hid (show wtS (k + 1) wt s = su + wt k by rw [hW2.out, hbt]; simp)
            go_wp2_with fail
            refine (HK.out k _).use fun w5 hb5 => ?_
            have HE5 := Lib.hid (HEa.out.trans (hb5.mono HEa.out.size))
            clear hb5
            go_wp2
            go_roundw
            case rel => exact ⟨k + 1, by omega, by go_num, by rw [HS2.out], HE5.out⟩
            case measure => simp [intOf]; omega
        · have hkn : n = k := by omega
          subst hkn
          have hsu : wtS n wt s ≤ 160 := by omega
          generalize hsm : wtS n wt s = su at *
          by_cases hgt : mo < su
          · go_wp2_with fail
            refine (onTime_any A n c g cap s J f wr (H.out.keep HBw.out) HOk.out (HR.out.keep HE.out) Hfr.out).mono ?_
            rintro e w5 ⟨rfl, rfl⟩
            rw [HOt.out s]
            cases hfb : fb s with
            | true =>
              have HN := Lib.hid (show hvF (wtS n wt) fb (s + 1) = (s, su) by rw [hVs.out, ← HMo.out, hfb, if_pos ⟨hgt, rfl⟩])
              go_wp2
              go_roundw
              case rel => exact ⟨s + 1, by omega, by go_num, by rw [HN.out], by rw [HN.out], HE.out⟩
              case measure => simp [intOf]; omega
            | false =>
              have HN := Lib.hid (show hvF (wtS n wt) fb (s + 1) = hvF (wtS n wt) fb s by rw [hVs.out, hfb, if_neg (by simp)])
              go_wp2
              go_roundw
              case rel => exact ⟨s + 1, by omega, by go_num, by rw [HN.out, ← HBe.out], by rw [HN.out, ← HMo.out], HE.out⟩
              case measure => simp [intOf]; omega
          · have HN := Lib.hid (show hvF (wtS n wt) fb (s + 1) = hvF (wtS n wt) fb s by rw [hVs.out, ← HMo.out, if_neg (fun h => hgt h.1)])
            go_wp2
            go_roundw
            case rel => exact ⟨s + 1, by omega, by go_num, by rw [HN.out, ← HBe.out], by rw [HN.out, ← HMo.out], HE.out⟩
            case measure => simp [intOf]; omega
    · obtain rfl : s = P := by omega
      go_wp2
      go_returns
      exact ⟨by rw [← HBe.out, ← HMo.out]; rfl, HB1.out.trans (HD.out.mono HB1.out.size)⟩

set_option maxHeartbeats 4000000 in
set_option maxRecDepth 1000000 in
theorem heavyW (A : Option Addr) (n c : Nat) (J : Nat → Nat → Int) (w : World) (h : Recs 4 w A n J) (hok : okJ n J = true) :
    Lr 57 #[.slice A n c, .func (.func 59) #[] #[]] w (.tuple #[.int .i64 (hvF (wtS n (wtW J)) (fitB n J) (2 ^ n)).1, .int .i64 (hvF (wtS n (wtW J)) (fitB n J) (2 ^ n)).2]) := by
  unfold Lr
  have H := Lib.hid h
  have HOk := Lib.hid hok
  obtain ⟨⟨h1, h8⟩, hJ⟩ := okJ_iff.1 hok
  have HWr := Lib.hid (fun s => wtS_rng (s := s) (wtW_rng hok))
  obtain ⟨P, hP⟩ : ∃ P, P = 2 ^ n := ⟨_, rfl⟩
  have hP256 : P ≤ 256 := by
    rw [hP]
    have := Nat.pow_le_pow_right (n := 2) (by omega) h8
    omega
  have HVr := Lib.hid (hvF_rng (g := wtS n (wtW J)) (fitB n J) (b := n * 20) (by omega) (fun s => ((HWr.out s) n (Nat.le_refl _)).2))
  have HVl := Lib.hid (hvF_le (wtS n (wtW J)) (fitB n J))
  have HV1 : Hid (∀ N, hvF (wtS n (wtW J)) (fitB n J) (N + 1) = if (hvF (wtS n (wtW J)) (fitB n J) N).2 < wtS n (wtW J) N ∧ fitB n J N = true then (N, wtS n (wtW J) N) else hvF (wtS n (wtW J)) (fitB n J) N) := Lib.hid (fun _ => rfl)
  have HWs : Hid (∀ s k, wtS (k + 1) (wtW J) s = wtS k (wtW J) s + if btN s k = true then wtW J k else 0) := Lib.hid (fun _ _ => rfl)
  have HW0 : Hid (∀ s, wtS 0 (wtW J) s = 0) := Lib.hid (fun _ => rfl)
  have HV0 : Hid (hvF (wtS n (wtW J)) (fitB n J) 0 = (0, 0)) := Lib.hid rfl
  have HK := Lib.hid (fun k w => wtW_any J k w)
  have HWb := Lib.hid (wtW_rng hok)
  have HFit := Lib.hid (fun (f : Nat → Int) (s : Nat) (hp : (lst n f).Perm (lst n (fun k => (k : Int)))) (hs : Srt (fun x => J x.toNat 2) f n) => onT_fit (s := s) hp hs (fun k hk => by have := (hJ k hk).1; omega))
  rw [← hP]
  have hw64 : wrap64 (2 ^ n) = (P : Int) := by
    have e : (2 : Int) ^ n = (P : Int) := by rw [hP]; push_cast; rfl
    rw [e]
    unfold wrap64
    omega
  generalize wtW J = wt at *
  generalize fitB n J = fb at *
  have HW64 := Lib.hid hw64
  clear h hok hJ hP hw64
  go_enter Try.func57, Try.ntmps57
  go_wp2_with fail
  refine (inOrder_any A n c J w H.out HOk.out).mono ?_
  rintro e w1 ⟨g, cap, f, rfl, hR, hPm, hS, hb⟩
  have HR := Lib.hid hR
  have HPm := Lib.hid hPm
  have HOt := Lib.hid (fun s => HFit.out f s hPm hS)
  have HB1 := Lib.hid hb
  have Hfr := Lib.hid (fun a (ha : a < n) => perm_rng hPm ha)
  clear hR hPm hS hb
  go_wp2_with fail
  rw [HW64.out]
  go_loopw [7, 8, 18] (fun be mo i wr => ∃ s : Nat, s ≤ P ∧ i = .int .i64 s ∧ be = .int .i64 (hvF (wtS n wt) fb s).1 ∧ mo = .int .i64 (hvF (wtS n wt) fb s).2 ∧ Below w1.heap.size w1 wr) (fun _ _ i _ => P - (intOf i).toNat)
  case atStart => exact ⟨0, Nat.zero_le _, rfl, by rw [HV0.out]; rfl, by rw [HV0.out], Below.refl _ _⟩
  case round =>
    obtain ⟨s, hs, rfl, rfl, rfl, hD⟩ := hrel
    have HD := Lib.hid hD
    clear hD
    have hmr := HVr.out s
    have hVs := Lib.hid (HV1.out s)
    have hbr := HVl.out s
    obtain ⟨mo, hmo⟩ : ∃ mo, mo = (hvF (wtS n wt) fb s).2 := ⟨_, rfl⟩
    obtain ⟨be, hbe⟩ : ∃ be, be = (hvF (wtS n wt) fb s).1 := ⟨_, rfl⟩
    have HMo := Lib.hid hmo
    have HBe := Lib.hid hbe
    rw [← hmo] at hmr ⊢
    rw [← hbe] at hbr ⊢
    have hmr20 : mo ≤ 160 := by omega
    have hmr0 := hmr.1
    clear hmo hbe hmr
    by_cases hlt : s < P
    · go_wp2_with fail
      go_loopw [10, 23] (fun su i wi => ∃ k : Nat, k ≤ n ∧ i = .int .i64 k ∧ su = .int .i64 (wtS k wt s) ∧ Below w1.heap.size w1 wi) (fun _ i _ => n - (intOf i).toNat)
      case atStart => exact ⟨0, Nat.zero_le _, rfl, by rw [HW0.out], HD.out⟩
      case round =>
        obtain ⟨k, hk, rfl, rfl, hE⟩ := hrel
        have HE := Lib.hid hE
        have HBw := Lib.hid (HB1.out.trans (hE.mono HB1.out.size))
        clear hE
        have hwr := HWr.out s k hk
        obtain ⟨hwr0, hwr1⟩ := hwr
        by_cases hk2 : k < n
        · obtain ⟨b, o, rfl, c0, c1, c2, c3⟩ := (H.out.keep HBw.out).four hk2
          have hw1 : 0 ≤ wt k ∧ wt k ≤ 20 := HWb.out k hk2
          obtain ⟨hw10, hw11⟩ := hw1
          have hk8 : (k : Int) < 8 := by omega
          have hW2 := Lib.hid (HWs.out s k)
          have HEa := Lib.hid (HE.out.alloc HE.out.size (.cells #[.int .i64 (J k 0), .int .i64 (J k 1), .int .i64 (J k 2), .int .i64 (J k 3)] 83))
          have hsu : wtS k wt s ≤ 160 := by omega
          generalize wtS k wt s = su at *
          go_wp2_with fail
          refine (hasD_any s k (by omega) _).mono ?_
          rintro e w4 ⟨rfl, rfl⟩
          cases hbt : btN s k with
          | false =>
            have HS2 := Lib.hid (show wtS (k + 1) wt s = su by rw [hW2.out, hbt]; simp)
            go_wp2
            go_roundw
            case rel => exact ⟨k + 1, by omega, by go_num, by rw [HS2.out], HEa.out⟩
            case measure => simp [intOf]; omega
          | true =>
            have HS2 := Lib.hid (show wtS (k + 1) wt s = su + wt k by rw [hW2.out, hbt]; simp)
            go_wp2_with fail
            refine (HK.out k _).use fun w5 hb5 => ?_
            have HE5 := Lib.hid (HEa.out.trans (hb5.mono HEa.out.size))
            clear hb5
            go_wp2
            go_roundw
            case rel => exact ⟨k + 1, by omega, by go_num, by rw [HS2.out], HE5.out⟩
            case measure => simp [intOf]; omega
        · have hkn : n = k := by omega
          subst hkn
          have hsu : wtS n wt s ≤ 160 := by omega
          generalize hsm : wtS n wt s = su at *
          by_cases hgt : mo < su
          · go_wp2_with fail
            refine (onTime_any A n c g cap s J f wr (H.out.keep HBw.out) HOk.out (HR.out.keep HE.out) Hfr.out).mono ?_
            rintro e w5 ⟨rfl, rfl⟩
            rw [HOt.out s]
            cases hfb : fb s with
            | true =>
              have HN := Lib.hid (show hvF (wtS n wt) fb (s + 1) = (s, su) by rw [hVs.out, ← HMo.out, hfb, if_pos ⟨hgt, rfl⟩])
              go_wp2
              go_roundw
              case rel => exact ⟨s + 1, by omega, by go_num, by rw [HN.out], by rw [HN.out], HE.out⟩
              case measure => simp [intOf]; omega
            | false =>
              have HN := Lib.hid (show hvF (wtS n wt) fb (s + 1) = hvF (wtS n wt) fb s by rw [hVs.out, hfb, if_neg (by simp)])
              go_wp2
              go_roundw
              case rel => exact ⟨s + 1, by omega, by go_num, by rw [HN.out, ← HBe.out], by rw [HN.out, ← HMo.out], HE.out⟩
              case measure => simp [intOf]; omega
          · have HN := Lib.hid (show hvF (wtS n wt) fb (s + 1) = hvF (wtS n wt) fb s by rw [hVs.out, ← HMo.out, if_neg (fun h => hgt h.1)])
            go_wp2
            go_roundw
            case rel => exact ⟨s + 1, by omega, by go_num, by rw [HN.out, ← HBe.out], by rw [HN.out, ← HMo.out], HE.out⟩
            case measure => simp [intOf]; omega
    · obtain rfl : s = P := by omega
      go_wp2
      go_returns
      exact ⟨by rw [← HBe.out, ← HMo.out]; rfl, HB1.out.trans (HD.out.mono HB1.out.size)⟩

set_option maxHeartbeats 1000000 in
set_option maxRecDepth 1000000 in
theorem most_bad (A : Option Addr) (n c : Nat) (J : Nat → Nat → Int) (w : World) (h : Recs 4 w A n J) (hn : n ≤ maxLen) (hok : okJ n J = false) :
    Lr 25 #[.slice A n c] w (.tuple #[.int .i64 0, .int .i64 2]) := by
  unfold Lr
  have H := Lib.hid h
  have HO := Lib.hid hok
  have hmm := Lib.hid hn
  clear h hok hn
  go_enter Try.func25, Try.ntmps25
  go_wp2_with fail
  refine (valid_any A n c J w H.out hmm.out).use fun w1 hb1 => ?_
  rw [HO.out]
  go_wp2
  go_returns
  exact ⟨rfl, hb1⟩
set_option maxHeartbeats 1000000 in
set_option maxRecDepth 1000000 in
theorem most_ok (A : Option Addr) (n c : Nat) (J : Nat → Nat → Int) (w : World) (h : Recs 4 w A n J) (hok : okJ n J = true) :
    Lr 25 #[.slice A n c] w (.tuple #[.int .i64 (hvF (wtS n (wtM J)) (fitB n J) (2 ^ n)).1, .int .i64 0]) := by
  unfold Lr
  have H := Lib.hid h
  have HO := Lib.hid hok
  have hn := (okJ_iff.1 hok).1.2
  have hmm := Lib.hid (show n ≤ maxLen by unfold maxLen; omega)
  clear h hok
  go_enter Try.func25, Try.ntmps25
  go_wp2_with fail
  refine (valid_any A n c J w H.out hmm.out).use fun w1 hb1 => ?_
  rw [HO.out]
  have HB1 := Lib.hid hb1
  clear hb1
  go_wp2_with fail
  refine (heavyM A n c J w1 (H.out.keep HB1.out) HO.out).use fun w2 hb2 => ?_
  have HB2 := Lib.hid (HB1.out.trans (hb2.mono HB1.out.size))
  clear hb2
  go_wp2
  go_returns
  exact ⟨rfl, HB2.out⟩
set_option maxHeartbeats 1000000 in
set_option maxRecDepth 1000000 in
theorem weigh_bad (A : Option Addr) (n c : Nat) (J : Nat → Nat → Int) (w : World) (h : Recs 4 w A n J) (hn : n ≤ maxLen) (hok : okJ n J = false) :
    Lr 26 #[.slice A n c] w (.tuple #[.int .i64 0, .int .i64 0, .int .i64 2]) := by
  unfold Lr
  have H := Lib.hid h
  have HO := Lib.hid hok
  have hmm := Lib.hid hn
  clear h hok hn
  go_enter Try.func26, Try.ntmps26
  go_wp2_with fail
  refine (valid_any A n c J w H.out hmm.out).use fun w1 hb1 => ?_
  rw [HO.out]
  go_wp2
  go_returns
  exact ⟨rfl, hb1⟩
set_option maxHeartbeats 1000000 in
set_option maxRecDepth 1000000 in
theorem weigh_ok (A : Option Addr) (n c : Nat) (J : Nat → Nat → Int) (w : World) (h : Recs 4 w A n J) (hok : okJ n J = true) :
    Lr 26 #[.slice A n c] w (.tuple #[.int .i64 (hvF (wtS n (wtW J)) (fitB n J) (2 ^ n)).1, .int .i64 (hvF (wtS n (wtW J)) (fitB n J) (2 ^ n)).2, .int .i64 0]) := by
  unfold Lr
  have H := Lib.hid h
  have HO := Lib.hid hok
  have hn := (okJ_iff.1 hok).1.2
  have hmm := Lib.hid (show n ≤ maxLen by unfold maxLen; omega)
  clear h hok
  go_enter Try.func26, Try.ntmps26
  go_wp2_with fail
  refine (valid_any A n c J w H.out hmm.out).use fun w1 hb1 => ?_
  rw [HO.out]
  have HB1 := Lib.hid hb1
  clear hb1
  go_wp2_with fail
  refine (heavyW A n c J w1 (H.out.keep HB1.out) HO.out).use fun w2 hb2 => ?_
  have HB2 := Lib.hid (HB1.out.trans (hb2.mono HB1.out.size))
  clear hb2
  go_wp2
  go_returns
  exact ⟨rfl, HB2.out⟩
end Go.Proofs.Ytbgekacfimgkeaa
