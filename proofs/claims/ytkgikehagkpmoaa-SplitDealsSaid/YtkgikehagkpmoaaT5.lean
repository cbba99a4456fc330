import Derived.Test.YtkgikehagkpmoaaT4
import Derived.Test.YtkgikehagkpmoaaBool
namespace Go.Proofs.Ytkgikehagkpmoaa
open Go.RowKit

def oneP (n : Int) (m : Nat) (f d : Nat → Int) (i : Int) (g : Nat) : Bool := decide (¬ d g = i ∧ sumTo f m ≤ n * (wTo f d i m + f g))

theorem oneIsEnough_any (A D : Option Addr) (m c c' : Nat) (f d : Nat → Int) (i n : Int) (w : World) (h : Ints w A m f) (hd : Ints w D m d) (hb : Bd m f 100000) (hm : m ≤ 9) (h0 : 0 ≤ n) (hn : n ≤ 9) :
    Calls Try.prog 78 #[.slice A m c, .slice D m c', .int .i64 i, .int .i64 n] w fun e w' => e = .returned (.bool (anyB (oneP n m f d i) m)) ∧ w = w' := by
  obtain ⟨h1, h2⟩ := wTo_bd hb d i m (Nat.le_refl _)
  obtain ⟨h3, h4⟩ := sumTo_bd hb m (Nat.le_refl _)
  have HB := Lib.hid hb
  clear hb
  go_enter Try.func78, Try.ntmps78
  go_wp2_with fail
  refine (worthOf_any _ _ _ _ _ _ _ _ _ h hd HB.out hm).mono ?_
  rintro e w' ⟨rfl, rfl⟩
  go_wp2_with fail
  refine (sumOf_any _ _ _ _ _ h HB.out hm).mono ?_
  rintro e w' ⟨rfl, rfl⟩
  go_wp2
  go_loop [21] (fun x => ∃ k : Nat, k ≤ m ∧ x = .int .i64 k ∧ NoneLt (oneP n m f d i) k) (fun x => m - (intOf x).toNat)
  case atStart => exact ⟨0, Nat.zero_le _, rfl, NoneLt.zero⟩
  case round =>
    obtain ⟨k, hk, rfl, hN⟩ := hrel
    by_cases hlt : k < m
    · obtain ⟨b, o, rfl, hc⟩ := h.at hlt
      obtain ⟨b', o', rfl, hc'⟩ := hd.at hlt
      obtain ⟨h5, h6⟩ := HB.out k hlt
      have h7 : 0 ≤ n * (wTo f d i m + f k) := Int.mul_nonneg h0 (by omega)
      have h8 : n * (wTo f d i m + f k) ≤ 9 * 1000000 := Int.mul_le_mul hn (by omega) (by omega) (by omega)
      by_cases e : d k = i
      · have HP : Hid (oneP n m f d i k = false) := Lib.hid (by simp [oneP, e])
        have hB := bne_f e
        clear e
        go_wp2
        go_round
        case rel => exact ⟨k + 1, by omega, by go_num, hN.succ HP.out⟩
        case measure => simp [intOf]; omega
      · by_cases e2 : sumTo f m ≤ n * (wTo f d i m + f k)
        · have HP : Hid (oneP n m f d i k = true) := Lib.hid (by simp [oneP, e, e2])
          have hB := bne_t e
          clear e
          go_wp2
          go_ret
          exact ⟨ret_bool (anyB_t hlt HP.out).symm, rfl⟩
        · have HP : Hid (oneP n m f d i k = false) := Lib.hid (by simp [oneP, e2])
          have hB := bne_t e
          clear e
          go_wp2
          go_round
          case rel => exact ⟨k + 1, by omega, by go_num, hN.succ HP.out⟩
          case measure => simp [intOf]; omega
    · obtain rfl : k = m := by omega
      go_wp2
      go_ret
      exact ⟨ret_bool (anyB_f hN).symm, rfl⟩

/-- Without good g of j, i would not envy j. -/
def goneB (m : Nat) (f d : Nat → Int) (i j : Int) (g : Nat) : Bool := decide (wTo f d j m - f g ≤ wTo f d i m)
def someP (m : Nat) (f d : Nat → Int) (i j : Int) (g : Nat) : Bool := decide (d g = j) && goneB m f d i j g
def eachP (m : Nat) (f d : Nat → Int) (i j : Int) (g : Nat) : Bool := !decide (d g = j) || goneB m f d i j g
def excB (m : Nat) (f d : Nat → Int) (i j kind : Int) : Bool := if kind = 1 then anyB (someP m f d i j) m else if kind = 2 then allB (eachP m f d i j) m else false

theorem val_bool {a b : Bool} (h : a = b) : Value.bool a = .bool b := by rw [h]

theorem excused_any (A D : Option Addr) (m c c' : Nat) (f d : Nat → Int) (i j kind : Int) (w : World) (h : Ints w A m f) (hd : Ints w D m d) (hb : Bd m f 100000) (hm : m ≤ 9) :
    Calls Try.prog 79 #[.slice A m c, .slice D m c', .int .i64 i, .int .i64 j, .int .i64 kind] w fun e w' => e = .returned (.bool (excB m f d i j kind)) ∧ w = w' := by
  obtain ⟨h1, h2⟩ := wTo_bd hb d i m (Nat.le_refl _)
  obtain ⟨h1', h2'⟩ := wTo_bd hb d j m (Nat.le_refl _)
  obtain ⟨h3, h4⟩ := sumTo_bd hb m (Nat.le_refl _)
  have HB := Lib.hid hb
  clear hb
  go_enter Try.func79, Try.ntmps79
  go_wp2_with fail
  refine (worthOf_any _ _ _ _ _ _ _ _ _ h hd HB.out hm).mono ?_
  rintro e w' ⟨rfl, rfl⟩
  go_wp2_with fail
  refine (worthOf_any _ _ _ _ _ _ _ _ _ h hd HB.out hm).mono ?_
  rintro e w' ⟨rfl, rfl⟩
  go_wp2
  go_loop [13, 14, 27] (fun s e x => ∃ k : Nat, k ≤ m ∧ x = .int .i64 k ∧ s = .bool (anyB (someP m f d i j) k) ∧ e = .bool (allB (eachP m f d i j) k)) (fun _ _ x => m - (intOf x).toNat)
  case atStart => exact ⟨0, Nat.zero_le _, rfl, rfl, rfl⟩
  case round =>
    obtain ⟨k, hk, rfl, rfl, rfl⟩ := hrel
    by_cases hlt : k < m
    · obtain ⟨b, o, rfl, hc⟩ := h.at hlt
      obtain ⟨b', o', rfl, hc'⟩ := hd.at hlt
      obtain ⟨h5, h6⟩ := HB.out k hlt
      by_cases e : d k = j
      · have hB := bne_f e
        by_cases e2 : wTo f d j m - f k ≤ wTo f d i m
        · have HP : Hid (someP m f d i j k = true ∧ eachP m f d i j k = true) := Lib.hid (by simp [someP, eachP, goneB, e, e2])
          clear e
          go_wp2
          go_round
          case rel => exact ⟨k + 1, by omega, by go_num, val_bool (by simp [anyB, HP.out.1]), val_bool (by simp [allB, HP.out.2])⟩
          case measure => simp [intOf]; omega
        · have HP : Hid (someP m f d i j k = false ∧ eachP m f d i j k = false) := Lib.hid (by simp [someP, eachP, goneB, e, e2])
          clear e
          go_wp2
          go_round
          case rel => exact ⟨k + 1, by omega, by go_num, val_bool (by simp [anyB, HP.out.1]), val_bool (by simp [allB, HP.out.2])⟩
          case measure => simp [intOf]; omega
      · have hB := bne_t e
        have HP : Hid (someP m f d i j k = false ∧ eachP m f d i j k = true) := Lib.hid (by simp [someP, eachP, e])
        clear e
        go_wp2
        go_round
        case rel => exact ⟨k + 1, by omega, by go_num, val_bool (by simp [anyB, HP.out.1]), val_bool (by simp [allB, HP.out.2])⟩
        case measure => simp [intOf]; omega
    · obtain rfl : k = m := by omega
      by_cases k1 : kind = 1
      · subst k1
        go_wp2
        go_ret
        exact ⟨ret_bool (by simp [excB]), rfl⟩
      · by_cases k2 : kind = 2
        · subst k2
          go_wp2
          go_ret
          exact ⟨ret_bool (by simp [excB]), rfl⟩
        · have HE : Hid (excB k f d i j kind = false) := Lib.hid (by simp [excB, k1, k2])
          have hB1 := beq_f k1
          have hB2 := beq_f k2
          clear k1 k2
          go_wp2
          go_ret
          exact ⟨ret_bool HE.out.symm, rfl⟩
end Go.Proofs.Ytkgikehagkpmoaa
