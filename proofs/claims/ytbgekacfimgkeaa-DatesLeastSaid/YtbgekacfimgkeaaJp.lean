/- Rows with needs: canFollow, delay. -/
import Derived.Test.YtbgekacfimgkeaaJf
namespace Go.Proofs.Ytbgekacfimgkeaa
open Go.RowKit

/-- A set with a. -/
def orX (s a : Nat) : Nat := s ||| 2 ^ a
theorem bit_or : ∀ a, a < 8 → ∀ s, s < 256 → bits .or .i64 ((s : Nat) : Int) ((2 ^ a : Nat) : Int) = ((orX s a : Nat) : Int) ∧ orX s a < 256 := by decide +kernel
theorem orX_bit : ∀ a, a < 8 → ∀ s, s < 256 → ∀ b, b < 8 → btN (orX s a) b = (btN s b || decide (b = a)) := by decide +kernel
theorem orX_lt {s a n : Nat} (hs : s < 2 ^ n) (ha : a < n) : orX s a < 2 ^ n := Nat.or_lt_two_pow hs (Nat.pow_lt_pow_right (by omega) ha)
theorem orX_gt : ∀ a, a < 8 → ∀ s, s < 256 → btN s a = false → s < orX s a := by decide +kernel
/-- A job may follow those of a set. -/
def cfB (N : Nat → Nat) (s j : Nat) : Bool := !btN s j && decide (bits .andNot .i64 ((N j : Nat) : Int) ((s : Nat) : Int) = 0)
def tmS (n : Nat) (J : Nat → Nat → Int) (s : Nat) : Int := wtS n (fun k => J k 0) s
def dlV (n : Nat) (J : Nat → Nat → Int) (d : Nat → Int) (s j : Nat) : Int := max (tmS n J (orX s j) - J j 2) (d (orX s j))
theorem tmS_rng {n : Nat} {J : Nat → Nat → Int} (h : okJ n J = true) (s : Nat) : ∀ m, m ≤ n → 0 ≤ tmS m J s ∧ tmS m J s ≤ m * (20 : Nat) := wtS_rng (b := 20) (fun k hk => by have := ((okJ_iff.1 h).2 k hk).1; exact ⟨by omega, this.2⟩)
theorem dlV_rng {n : Nat} {J : Nat → Nat → Int} (h : okJ n J = true) {d : Nat → Int} {s j : Nat} (hj : j < n) (hd : -200 ≤ d (orX s j) ∧ d (orX s j) ≤ 161) : -200 ≤ dlV n J d s j ∧ dlV n J d s j ≤ 161 := by
  have h1 := tmS_rng h (orX s j) n (Nat.le_refl _)
  obtain ⟨⟨-, h8⟩, hJ⟩ := okJ_iff.1 h
  have h2 := (hJ j hj).2.2.1
  unfold dlV
  omega

set_option maxHeartbeats 1000000 in
set_option maxRecDepth 1000000 in
theorem canFollow_any (A : Option Addr) (n c : Nat) (N : Nat → Nat) (s j : Nat) (w : World) (hj : j < 8) :
    Lr 81 #[.agg #[.slice A n c, .int .i64 ((N 0 : Nat) : Int), .int .i64 ((N 1 : Nat) : Int), .int .i64 ((N 2 : Nat) : Int), .int .i64 ((N 3 : Nat) : Int), .int .i64 ((N 4 : Nat) : Int), .int .i64 ((N 5 : Nat) : Int), .int .i64 ((N 6 : Nat) : Int), .int .i64 ((N 7 : Nat) : Int)], .int .i64 s, .int .i64 j] w (.bool (cfB N s j)) := by
  unfold Lr
  have hb0 := (Below.refl w.heap.size w).alloc (Nat.le_refl _) (.cells #[.slice A n c, .int .i64 ((N 0 : Nat) : Int), .int .i64 ((N 1 : Nat) : Int), .int .i64 ((N 2 : Nat) : Int), .int .i64 ((N 3 : Nat) : Int), .int .i64 ((N 4 : Nat) : Int), .int .i64 ((N 5 : Nat) : Int), .int .i64 ((N 6 : Nat) : Int), .int .i64 ((N 7 : Nat) : Int)] 95)
  have hcj : (w.alloc (.cells #[.slice A n c, .int .i64 ((N 0 : Nat) : Int), .int .i64 ((N 1 : Nat) : Int), .int .i64 ((N 2 : Nat) : Int), .int .i64 ((N 3 : Nat) : Int), .int .i64 ((N 4 : Nat) : Int), .int .i64 ((N 5 : Nat) : Int), .int .i64 ((N 6 : Nat) : Int), .int .i64 ((N 7 : Nat) : Int)] 95)).cell? ⟨w.heap.size, 1 + j, none⟩ = some (.int .i64 ((N j : Nat) : Int)) := by
    have : j = 0 ∨ j = 1 ∨ j = 2 ∨ j = 3 ∨ j = 4 ∨ j = 5 ∨ j = 6 ∨ j = 7 := by omega
    rcases this with rfl | rfl | rfl | rfl | rfl | rfl | rfl | rfl <;> simp [World.cell?_alloc_at]
  have HB := Lib.hid hb0
  have HCf : Hid (cfB N s j = (!btN s j && decide (bits .andNot .i64 ((N j : Nat) : Int) ((s : Nat) : Int) = 0))) := Lib.hid rfl
  have hj8 : (j : Int) < 8 := by omega
  clear hb0
  go_enter Try.func81, Try.ntmps81
  go_wp2_with fail
  refine (hasD_any s j (by omega) _).mono ?_
  rintro e w1 ⟨rfl, rfl⟩
  cases hb : btN s j with
  | true =>
    have HE := Lib.hid (show cfB N s j = false by rw [HCf.out, hb]; rfl)
    go_wp2
    go_ret
    exact ⟨ret_bool HE.out.symm, HB.out⟩
  | false =>
    have HE := Lib.hid (show cfB N s j = decide (bits .andNot .i64 ((N j : Nat) : Int) ((s : Nat) : Int) = 0) by rw [HCf.out, hb]; rfl)
    by_cases hq : bits .andNot .i64 ((N j : Nat) : Int) ((s : Nat) : Int) = 0
    · have hB := beq_t hq
      have HE2 := Lib.hid (show cfB N s j = true by rw [HE.out]; exact decide_eq_true hq)
      clear hq
      go_wp2
      go_ret
      exact ⟨ret_bool (by rw [HE2.out]), HB.out⟩
    · have hB := beq_f hq
      have HE2 := Lib.hid (show cfB N s j = false by rw [HE.out]; exact decide_eq_false hq)
      clear hq
      go_wp2
      go_ret
      exact ⟨ret_bool (by rw [HE2.out]), HB.out⟩

set_option maxHeartbeats 2000000 in
set_option maxRecDepth 1000000 in
theorem delayR_any (A : Option Addr) (n c : Nat) (N : Nat → Nat) (J : Nat → Nat → Int) (s j g P : Nat) (d : Nat → Int) (w : World) (h : Recs 4 w A n J) (hok : okJ n J = true) (hs : s < 256) (hj : j < n) (hP : orX s j < P) (hR : RowI w g P d) (hd : -200 ≤ d (orX s j) ∧ d (orX s j) ≤ 161) :
    Lr 82 #[.agg #[.slice A n c, .int .i64 ((N 0 : Nat) : Int), .int .i64 ((N 1 : Nat) : Int), .int .i64 ((N 2 : Nat) : Int), .int .i64 ((N 3 : Nat) : Int), .int .i64 ((N 4 : Nat) : Int), .int .i64 ((N 5 : Nat) : Int), .int .i64 ((N 6 : Nat) : Int), .int .i64 ((N 7 : Nat) : Int)], .int .i64 s, .int .i64 j, .slice (some ⟨g, 0, none⟩) P P] w (.int .i64 (dlV n J d s j)) := by
  unfold Lr
  have H := Lib.hid h
  have HR := Lib.hid hR
  obtain ⟨⟨h1, h8⟩, hJ⟩ := okJ_iff.1 hok
  have HJ := Lib.hid hJ
  have HTr := Lib.hid (tmS_rng hok (orX s j))
  have hw1 := pow_fit j (by omega)
  obtain ⟨hw2, ho256⟩ := bit_or j (by omega) s hs
  have hb0 := (Below.refl w.heap.size w).alloc (Nat.le_refl _) (.cells #[.slice A n c, .int .i64 ((N 0 : Nat) : Int), .int .i64 ((N 1 : Nat) : Int), .int .i64 ((N 2 : Nat) : Int), .int .i64 ((N 3 : Nat) : Int), .int .i64 ((N 4 : Nat) : Int), .int .i64 ((N 5 : Nat) : Int), .int .i64 ((N 6 : Nat) : Int), .int .i64 ((N 7 : Nat) : Int)] 95)
  have hbx : (w.alloc (.cells #[.slice A n c, .int .i64 ((N 0 : Nat) : Int), .int .i64 ((N 1 : Nat) : Int), .int .i64 ((N 2 : Nat) : Int), .int .i64 ((N 3 : Nat) : Int), .int .i64 ((N 4 : Nat) : Int), .int .i64 ((N 5 : Nat) : Int), .int .i64 ((N 6 : Nat) : Int), .int .i64 ((N 7 : Nat) : Int)] 95)).cell? ⟨w.heap.size, 0, none⟩ = some (.slice A n c) := by simp [World.cell?_alloc_at]
  have hsz : w.heap.size < (w.alloc (.cells #[.slice A n c, .int .i64 ((N 0 : Nat) : Int), .int .i64 ((N 1 : Nat) : Int), .int .i64 ((N 2 : Nat) : Int), .int .i64 ((N 3 : Nat) : Int), .int .i64 ((N 4 : Nat) : Int), .int .i64 ((N 5 : Nat) : Int), .int .i64 ((N 6 : Nat) : Int), .int .i64 ((N 7 : Nat) : Int)] 95)).heap.size := by simp
  have HT : Hid (∀ k, tmS (k + 1) J (orX s j) = tmS k J (orX s j) + if btN (orX s j) k = true then J k 0 else 0) := Lib.hid (fun _ => rfl)
  have HT0 : Hid (tmS 0 J (orX s j) = 0) := Lib.hid rfl
  have HV : Hid (dlV n J d s j = max (tmS n J (orX s j) - J j 2) (d (orX s j))) := Lib.hid rfl
  clear h hok hJ hR
  generalize orX s j = s' at *
  generalize (2 : Nat) ^ j = pw at *
  go_enter Try.func82, Try.ntmps82
  go_wp2
  have HBx := Lib.hid hbx
  have HB0 := Lib.hid hb0
  have HSz := Lib.hid hsz
  clear hbx hb0 hsz
  generalize w.alloc (.cells #[.slice A n c, .int .i64 ((N 0 : Nat) : Int), .int .i64 ((N 1 : Nat) : Int), .int .i64 ((N 2 : Nat) : Int), .int .i64 ((N 3 : Nat) : Int), .int .i64 ((N 4 : Nat) : Int), .int .i64 ((N 5 : Nat) : Int), .int .i64 ((N 6 : Nat) : Int), .int .i64 ((N 7 : Nat) : Int)] 95) = W0 at *
  clear hw1 hw2
  go_loopw [9, 19] (fun en i wr => ∃ k : Nat, k ≤ n ∧ i = .int .i64 k ∧ en = .int .i64 (tmS k J s') ∧ Below W0.heap.size W0 wr) (fun _ i _ => n - (intOf i).toNat)
  case atStart => exact ⟨0, Nat.zero_le _, rfl, by rw [HT0.out], Below.refl _ _⟩
  case round =>
    obtain ⟨k, hk, rfl, rfl, hD⟩ := hrel
    have HD := Lib.hid hD
    have HBw := Lib.hid (HB0.out.trans (hD.mono HB0.out.size))
    have hbx : wr.cell? ⟨w.heap.size, 0, none⟩ = some (.slice A n c) := (hD.cell (by show w.heap.size < _; exact HSz.out)).trans HBx.out
    obtain ⟨ht0, ht1⟩ := HTr.out k hk
    clear hD
    by_cases hlt : k < n
    · obtain ⟨b, o, rfl, c0, c1, c2, c3⟩ := (H.out.keep HBw.out).four hlt
      have hJk := (HJ.out k hlt).1
      obtain ⟨hj1, hj2⟩ := hJk
      have hTk := Lib.hid (HT.out k)
      have hk8 : (k : Int) < 8 := by omega
      have hk64 : k < 64 := by omega
      have hsu : tmS k J s' ≤ 160 := by omega
      have HDa := Lib.hid (HD.out.alloc HD.out.size (.cells #[.int .i64 (J k 0), .int .i64 (J k 1), .int .i64 (J k 2), .int .i64 (J k 3)] 83))
      generalize tmS k J s' = su at *
      clear ht1 hbx
      go_wp2_with fail
      refine (hasD_any s' k hk64 _).mono ?_
      rintro e w4 ⟨rfl, rfl⟩
      cases hbt : btN s' k with
      | false =>
        have HS2 := Lib.hid (show tmS (k + 1) J s' = su by rw [hTk.out, hbt]; simp)
        go_wp2
        go_roundw
        case rel => exact ⟨k + 1, by omega, by go_num, by rw [HS2.out], HDa.out⟩
        case measure => simp [intOf]; omega
      | true =>
        have HS2 := Lib.hid (show tmS (k + 1) J s' = su + J k 0 by rw [hTk.out, hbt]; simp)
        go_wp2
        go_roundw
        case rel => exact ⟨k + 1, by omega, by go_num, by rw [HS2.out], HDa.out⟩
        case measure => simp [intOf]; omega
    · have hkn : n = k := by omega
      subst hkn
      obtain ⟨b, o, rfl, c0, c1, c2, c3⟩ := (H.out.keep HBw.out).four hj
      have hJj := (HJ.out j hj).2.2.1
      obtain ⟨hj1, hj2⟩ := hJj
      have hrc := (HR.out.keep HBw.out).cell hP
      have hPI : (s' : Int) < P := by omega
      have hs0 : (0 : Int) ≤ s' := by omega
      have hsu : tmS n J s' ≤ 160 := by omega
      obtain ⟨hd1, hd2⟩ := hd
      generalize tmS n J s' = su at *
      generalize d s' = dv at *
      clear ht1 c0 c1 c3
      go_wp2_with fail
      go_quiet (fail)
      go_wp2
      all_goals
        go_ret
        exact ⟨by rw [HV.out]; exact ret_int (by omega), HBw.out.trans (((Dn.refl _).drewN _).below _)⟩
end Go.Proofs.Ytbgekacfimgkeaa
