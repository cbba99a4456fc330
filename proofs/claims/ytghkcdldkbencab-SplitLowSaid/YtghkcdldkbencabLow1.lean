import Derived.Test.YtghkcdldkbencabWorth
import Derived.Test.YtghkcdldkbencabGr2
import Derived.Test.YtghkcdldkbencabT7
namespace Go.Proofs.Ytghkcdldkbencab
open Go.RowKit

def minTo (f : Nat → Int) : Nat → Int
  | 0 => 1073741824
  | k + 1 => min (minTo f k) (f k)
theorem minTo_bd {f : Nat → Int} {n : Nat} {u : Int} (h : Bd n f u) (k : Nat) (hk : k ≤ n) : 0 ≤ minTo f k ∧ minTo f k ≤ 1073741824 := by
  induction k with
  | zero => simp [minTo]
  | succ k ih =>
    obtain ⟨h1, h2⟩ := ih (by omega)
    obtain ⟨h3, h4⟩ := h k (by omega)
    simp only [minTo]
    omega

set_option maxHeartbeats 1000000 in
set_option maxRecDepth 1000000 in
theorem tell_any (A D : Option Addr) (n m c c' b : Nat) (v : Nat → Nat → Int) (d : Nat → Int) (w : World) (hx : Box w b 22 (.slice A n c)) (h : Mat w A n m v) (hd : Ints w D m d) (hb : BdM n m v 100) (hm : m ≤ 9) (hn : n ≤ 4) :
    Calls Try.prog 21 #[.slice D m c', .pointer (some ⟨b, 0, none⟩)] w fun e w' =>
      e = .returned (.tuple #[.int .i64 (minTo (wrt v m d) n), .int .i64 (cntTo (wrt v m d) n), .int .i64 (prodTo (wrt v m d) n)]) ∧ w = w' := by
  have HW := Lib.hid (wrt_bd hb hm d)
  have HB := Lib.hid hb
  have HM := Lib.hid h
  have HD := Lib.hid hd
  have c0 := hx.cell
  clear hb h hd hx
  go_enter Try.func21, Try.ntmps21
  go_wp2
  go_loop [6, 7, 8, 13] (fun a p q i => ∃ k : Nat, k ≤ n ∧ i = .int .i64 k ∧ a = .int .i64 (minTo (wrt v m d) k) ∧ p = .int .i64 (cntTo (wrt v m d) k) ∧ q = .int .i64 (prodTo (wrt v m d) k)) (fun _ _ _ i => n - (intOf i).toNat)
  case atStart => exact ⟨0, Nat.zero_le _, rfl, rfl, rfl, rfl⟩
  case round =>
    obtain ⟨k, hk, rfl, rfl, rfl, rfl⟩ := hrel
    by_cases hlt : k < n
    · obtain ⟨h1, h2⟩ := cntTo_bd (wrt v m d) k
      obtain ⟨h3, h4⟩ := prodTo_bd HW.out k (by omega)
      obtain ⟨h5, h6⟩ := HW.out k hlt
      obtain ⟨h10, h11⟩ := minTo_bd HW.out k (by omega)
      have h7 : prodTo (wrt v m d) k ≤ 1000000000000 := by
        have : (1000 : Int) ^ k ≤ 1000 ^ 4 := by
          have : k = 0 ∨ k = 1 ∨ k = 2 ∨ k = 3 := by omega
          rcases this with rfl | rfl | rfl | rfl <;> decide
        omega
      have h8 : 0 ≤ prodTo (wrt v m d) k * wrt v m d k := Int.mul_nonneg (by omega) h5
      have h9 : prodTo (wrt v m d) k * wrt v m d k ≤ 1000000000000 * 1000 := Int.mul_le_mul h7 h6 h5 (by omega)
      have HMin : Hid (minTo (wrt v m d) (k + 1) = if wrt v m d k < minTo (wrt v m d) k then wrt v m d k else minTo (wrt v m d) k) := Lib.hid (by simp only [minTo]; split <;> omega)
      have hw : wTo (v k) d k m = wrt v m d k := rfl
      clear h4
      go_wp2_with fail
      refine (lworth_any _ _ n m _ _ v d k k _ HM.out HD.out (HB.out.le (by omega)) hm hlt (by omega)).mono ?_
      rintro e w' ⟨rfl, rfl⟩
      rw [hw]
      clear hw
      by_cases e : 0 < wrt v m d k
      · have HE : Hid (cntTo (wrt v m d) (k + 1) = cntTo (wrt v m d) k + 1 ∧ prodTo (wrt v m d) (k + 1) = prodTo (wrt v m d) k * wrt v m d k) := Lib.hid (by simp [cntTo, prodTo, e])
        go_wp2
        go_round
        case rel => exact ⟨k + 1, by omega, by go_num, val_int HMin.out.symm, val_int HE.out.1.symm, val_int HE.out.2.symm⟩
        case measure => simp [intOf]; omega
      · have HE : Hid (cntTo (wrt v m d) (k + 1) = cntTo (wrt v m d) k ∧ prodTo (wrt v m d) (k + 1) = prodTo (wrt v m d) k) := Lib.hid (by simp [cntTo, prodTo, e])
        go_wp2
        go_round
        case rel => exact ⟨k + 1, by omega, by go_num, val_int HMin.out.symm, val_int HE.out.1.symm, val_int HE.out.2.symm⟩
        case measure => simp [intOf]; omega
    · obtain rfl : k = n := by omega
      go_wp2
      go_ret3
      exact ⟨rfl, rfl⟩
end Go.Proofs.Ytghkcdldkbencab
