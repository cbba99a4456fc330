import Derived.Test.YtkgikehagkpmoaaT4
import Derived.Test.YtkgikehagkpmoaaRowI
namespace Go.Proofs.Ytkgikehagkpmoaa
open Go.RowKit

theorem isNaN_any (x : Int) (w : World) : Calls Try.prog 99 #[.int .i64 x] w fun e w' => e = .returned (.bool false) ∧ w = w' := by
  have hB := bne_f (a := x) rfl
  go_enter Try.func99, Try.ntmps99
  go_wp2
  go_ret
  exact ⟨by simp, rfl⟩

def cmpI (x y : Int) : Int := if x < y then -1 else if y < x then 1 else 0
theorem cmpI_lt {x y : Int} (h : x < y) : cmpI x y = -1 := by simp [cmpI, h]
theorem cmpI_gt {x y : Int} (h : y < x) : cmpI x y = 1 := by simp [cmpI, h, Int.not_lt.2 (Int.le_of_lt h)]
theorem cmpI_eq {x y : Int} (h : x = y) : cmpI x y = 0 := by simp [cmpI, h]

theorem compare_any (x y : Int) (w : World) : Calls Try.prog 85 #[.int .i64 x, .int .i64 y] w fun e w' => e = .returned (.int .i64 (cmpI x y)) ∧ w = w' := by
  by_cases h1 : x < y
  · rw [cmpI_lt h1]
    go_enter Try.func85, Try.ntmps85
    go_wp2_with fail
    refine (isNaN_any _ _).mono ?_
    rintro e w' ⟨rfl, rfl⟩
    go_wp2_with fail
    refine (isNaN_any _ _).mono ?_
    rintro e w' ⟨rfl, rfl⟩
    go_wp2
    go_ret
    exact ⟨rfl, rfl⟩
  · by_cases h2 : y < x
    · rw [cmpI_gt h2]
      go_enter Try.func85, Try.ntmps85
      go_wp2_with fail
      refine (isNaN_any _ _).mono ?_
      rintro e w' ⟨rfl, rfl⟩
      go_wp2_with fail
      refine (isNaN_any _ _).mono ?_
      rintro e w' ⟨rfl, rfl⟩
      go_wp2
      go_ret
      exact ⟨rfl, rfl⟩
    · rw [cmpI_eq (by omega)]
      go_enter Try.func85, Try.ntmps85
      go_wp2_with fail
      refine (isNaN_any _ _).mono ?_
      rintro e w' ⟨rfl, rfl⟩
      go_wp2_with fail
      refine (isNaN_any _ _).mono ?_
      rintro e w' ⟨rfl, rfl⟩
      go_wp2
      go_ret
      exact ⟨rfl, rfl⟩

/-- The first difference of f and g, of the first k. -/
def cmpF (f g : Nat → Int) : Nat → Int
  | 0 => 0
  | k + 1 => if cmpF f g k = 0 then cmpI (f k) (g k) else cmpF f g k
theorem cmpF_stays {f g : Nat → Int} {k : Nat} (h : cmpF f g k ≠ 0) (n : Nat) (hn : k ≤ n) : cmpF f g n = cmpF f g k := by
  induction n with
  | zero => obtain rfl : k = 0 := by omega
            rfl
  | succ n ih =>
    rcases Nat.lt_or_ge n k with hl | hl
    · obtain rfl : k = n + 1 := by omega
      rfl
    · have := ih hl
      simp [cmpF, this, h]

theorem cmpS_any (A B : Option Addr) (n c c' : Nat) (f g : Nat → Int) (w : World) (hf : Ints w A n f) (hg : Ints w B n g) (hn : n ≤ 10000) :
    Calls Try.prog 73 #[.slice A n c, .slice B n c'] w fun e w' => e = .returned (.int .i64 (cmpF f g n)) ∧ w = w' := by
  go_enter Try.func73, Try.ntmps73
  go_wp2
  go_loop [11] (fun i => ∃ k : Nat, k ≤ n ∧ i = .int .i64 k ∧ Hid (cmpF f g k = 0)) (fun i => n - (intOf i).toNat)
  case atStart => exact ⟨0, Nat.zero_le _, rfl, rfl⟩
  case round =>
    obtain ⟨k, hk, rfl, H0⟩ := hrel
    by_cases hlt : k < n
    · obtain ⟨b, o, rfl, hc⟩ := hf.at hlt
      obtain ⟨b', o', rfl, hc'⟩ := hg.at hlt
      by_cases e : f k = g k
      · have HE : Hid (cmpF f g (k + 1) = 0) := Lib.hid (by simp [cmpF, H0.out, cmpI_eq e])
        have HC := Lib.hid (cmpI_eq e)
        clear e
        go_wp2_with fail
        refine (compare_any _ _ _).mono ?_
        rintro e w' ⟨rfl, rfl⟩
        rw [HC.out]
        go_wp2
        go_round
        case rel => exact ⟨k + 1, by omega, by go_num, HE⟩
        case measure => simp [intOf]; omega
      · have h0 : cmpI (f k) (g k) ≠ 0 := by
          unfold cmpI
          split <;> (try split) <;> omega
        have HE : Hid (cmpF f g n = cmpI (f k) (g k)) := by
          have h1 : cmpF f g (k + 1) = cmpI (f k) (g k) := by simp [cmpF, H0.out]
          exact Lib.hid ((cmpF_stays (k := k + 1) (by rw [h1]; exact h0) n (by omega)).trans h1)
        have hB := bne_t h0
        clear e h0
        go_wp2_with fail
        refine (compare_any _ _ _).mono ?_
        rintro e w' ⟨rfl, rfl⟩
        go_wp2
        go_ret
        exact ⟨ret_int HE.out.symm, rfl⟩
    · obtain rfl : k = n := by omega
      go_wp2
      go_ret
      exact ⟨ret_int H0.out.symm, rfl⟩

set_option maxHeartbeats 1000000 in
theorem ownWorths_any (A D : Option Addr) (n m c c' : Nat) (v : Nat → Nat → Int) (d : Nat → Int) (w : World) (h : Mat w A n m v) (hd : Ints w D m d) (hb : BdM n m v 100000) (hm : m ≤ 9) (hn : n ≤ 9) (hO : ∀ g, g < m → 0 ≤ d g ∧ d g < n) :
    Calls Try.prog 72 #[.slice A n c, .slice D m c'] w fun e w' => e = .returned (.slice (some ⟨w.heap.size, 0, none⟩) n n) ∧ RowI w' w.heap.size n (fun i => wTo (v i) d i m) ∧ Below w.heap.size w w' := by
  have hmk := mk_ints n (by omega)
  have H := Lib.hid h
  have HD := Lib.hid hd
  have HO := Lib.hid hO
  have HB := Lib.hid hb
  clear h hd hO hb
  go_enter Try.func72, Try.ntmps72
  go_wp2
  clear hmk
  go_loopw [13] (fun i wr => ∃ k : Nat, k ≤ m ∧ i = .int .i64 k ∧ RowI wr w.heap.size n (fun i => wTo (v i) d i k) ∧ Below w.heap.size w wr) (fun i _ => m - (intOf i).toNat)
  case atStart => exact ⟨0, Nat.zero_le _, rfl, RowI.made w n, (Below.refl _ _).alloc (Nat.le_refl _) _⟩
  case round =>
    obtain ⟨k, hk, rfl, hR, hbel⟩ := hrel
    by_cases hlt : k < m
    · obtain ⟨b, o, rfl, hc⟩ := (HD.out.keep hbel).at hlt
      obtain ⟨j, hj⟩ : ∃ j : Nat, d k = j := ⟨(d k).toNat, by have := (HO.out k hlt).1; omega⟩
      have hjn : j < n := by have := (HO.out k hlt).2; omega
      obtain ⟨bv, ov, R, cR, rfl, hv, hVR⟩ := (H.out.keep hbel).at hjn
      obtain ⟨br, orr, rfl, hvc⟩ := hVR.at hlt
      have hs := hR.cell hjn
      have hfz := hR.frozen j
      obtain ⟨h1, h2⟩ := HB.out j hjn k hlt
      obtain ⟨h3, h4⟩ := wTo_bd (HB.out j hjn) d j k (by omega)
      obtain ⟨h5, h6⟩ := sumTo_bd (HB.out j hjn) k (by omega)
      have HR := Lib.hid hR
      rw [hj] at hc
      have HJ := Lib.hid hj
      clear hR hVR hj
      go_wp2
      go_region
      go_wp2
      go_roundw
      case rel =>
        refine ⟨k + 1, by omega, by go_num, ((HR.out.set j _).drew).congr (fun i hi => ?_), (hbel.setCell (Nat.le_refl _) _).drew⟩
        by_cases e : i = j
        · subst e
          rw [upd_at, wTo_yes HJ.out]
        · rw [upd_ne _ _ e, wTo_no (by rw [HJ.out]; omega)]
      case measure => simp [intOf]; omega
    · obtain rfl : k = m := by omega
      go_wp2
      go_ret
      exact ⟨rfl, hR, hbel⟩

def cntTo (f : Nat → Int) : Nat → Int
  | 0 => 0
  | k + 1 => if 0 < f k then cntTo f k + 1 else cntTo f k
def prodTo (f : Nat → Int) : Nat → Int
  | 0 => 1
  | k + 1 => if 0 < f k then prodTo f k * f k else prodTo f k
theorem cntTo_bd (f : Nat → Int) (k : Nat) : 0 ≤ cntTo f k ∧ cntTo f k ≤ k := by
  induction k with
  | zero => simp [cntTo]
  | succ k ih =>
    simp only [cntTo]
    split <;> omega
theorem prodTo_bd {n : Nat} {f : Nat → Int} (h : Bd n f 1000) (k : Nat) (hk : k ≤ n) : 1 ≤ prodTo f k ∧ prodTo f k ≤ 1000 ^ k := by
  induction k with
  | zero => simp [prodTo]
  | succ k ih =>
    have h1 := h k (by omega)
    obtain ⟨h2, h3⟩ := ih (by omega)
    simp only [prodTo]
    split
    · refine ⟨?_, ?_⟩
      · have : 1 * 1 ≤ prodTo f k * f k := Int.mul_le_mul h2 (by omega) (by omega) (by omega)
        omega
      · rw [Int.pow_succ]
        exact Int.mul_le_mul h3 h1.2 (by omega) (by omega)
    · refine ⟨h2, ?_⟩
      rw [Int.pow_succ]
      have : (1000 : Int) ^ k * 1 ≤ 1000 ^ k * 1000 := Int.mul_le_mul_of_nonneg_left (by omega) (by omega)
      omega
def scoreN (n : Nat) (f : Nat → Int) : Nat → Int := fun i => if i = 0 then cntTo f n else prodTo f n

theorem nash1_any (A : Option Addr) (n c : Nat) (f : Nat → Int) (w : World) (h : Ints w A n f) (hb : Bd n f 1000) (hn : n ≤ 4) :
    Calls Try.prog 51 #[.slice A n c] w fun e w' => e = .returned (.slice (some ⟨w.heap.size, 0, none⟩) 2 2) ∧ RowI w' w.heap.size 2 (scoreN n f) ∧ Below w.heap.size w w' := by
  have HB := Lib.hid hb
  clear hb
  go_enter Try.func51, Try.ntmps51
  go_wp2
  go_loop [3, 4, 9] (fun p q i => ∃ k : Nat, k ≤ n ∧ i = .int .i64 k ∧ p = .int .i64 (cntTo f k) ∧ q = .int .i64 (prodTo f k)) (fun _ _ i => n - (intOf i).toNat)
  case atStart => exact ⟨0, Nat.zero_le _, rfl, rfl, rfl⟩
  case round =>
    obtain ⟨k, hk, rfl, rfl, rfl⟩ := hrel
    by_cases hlt : k < n
    · obtain ⟨b, o, rfl, hc⟩ := h.at hlt
      obtain ⟨h1, h2⟩ := cntTo_bd f k
      obtain ⟨h3, h4⟩ := prodTo_bd HB.out k (by omega)
      obtain ⟨h5, h6⟩ := HB.out k hlt
      have h7 : prodTo f k ≤ 1000000000000 := by
        have : (1000 : Int) ^ k ≤ 1000 ^ 4 := by
          have : k = 0 ∨ k = 1 ∨ k = 2 ∨ k = 3 := by omega
          rcases this with rfl | rfl | rfl | rfl <;> decide
        omega
      have h8 : 0 ≤ prodTo f k * f k := Int.mul_nonneg (by omega) h5
      have h9 : prodTo f k * f k ≤ 1000000000000 * 1000 := Int.mul_le_mul h7 h6 h5 (by omega)
      by_cases e : 0 < f k
      · have HE : Hid (cntTo f (k + 1) = cntTo f k + 1 ∧ prodTo f (k + 1) = prodTo f k * f k) := Lib.hid (by simp [cntTo, prodTo, e])
        clear h4
        go_wp2
        go_round
        case rel => exact ⟨k + 1, by omega, by go_num, val_int HE.out.1.symm, val_int HE.out.2.symm⟩
        case measure => simp [intOf]; omega
      · have HE : Hid (cntTo f (k + 1) = cntTo f k ∧ prodTo f (k + 1) = prodTo f k) := Lib.hid (by simp [cntTo, prodTo, e])
        clear h4
        go_wp2
        go_round
        case rel => exact ⟨k + 1, by omega, by go_num, val_int HE.out.1.symm, val_int HE.out.2.symm⟩
        case measure => simp [intOf]; omega
    · obtain rfl : k = n := by omega
      go_wp2
      go_ret
      refine ⟨rfl, ?_, (Below.refl _ _).alloc (Nat.le_refl _) _⟩
      exact World.rowIs_alloc _ _ _ _ (fun i hi => by
        have : i = 0 ∨ i = 1 := by simp at hi; omega
        rcases this with rfl | rfl <;> simp [scoreN])
end Go.Proofs.Ytkgikehagkpmoaa
