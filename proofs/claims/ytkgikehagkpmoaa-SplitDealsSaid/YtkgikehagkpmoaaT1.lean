import Derived.Test.YtkgikehagkpmoaaBase
namespace Go.Proofs.Ytkgikehagkpmoaa
open Go.RowKit

def sumTo (f : Nat → Int) : Nat → Int
  | 0 => 0
  | k + 1 => sumTo f k + f k

theorem sumTo_bd {n : Nat} {f : Nat → Int} {m : Int} (h : Bd n f m) (k : Nat) (hk : k ≤ n) : 0 ≤ sumTo f k ∧ sumTo f k ≤ k * m := by
  induction k with
  | zero => simp [sumTo]
  | succ k ih =>
    have h1 := h k (by omega)
    have h2 := ih (by omega)
    simp only [sumTo, Int.natCast_add, Int.add_mul]
    omega

theorem sumOf_any (A : Option Addr) (n c : Nat) (f : Nat → Int) (w : World) (h : Ints w A n f) (hb : Bd n f 100000) (hn : n ≤ 9) :
    Calls Try.prog 97 #[.slice A n c] w fun e w' => e = .returned (.int .i64 (sumTo f n)) ∧ w = w' := by
  go_enter Try.func97, Try.ntmps97
  go_wp2
  go_loop [3, 8] (fun s i => ∃ k : Nat, k ≤ n ∧ i = .int .i64 k ∧ s = .int .i64 (sumTo f k)) (fun _ i => n - (intOf i).toNat)
  case atStart => exact ⟨0, Nat.zero_le _, rfl, rfl⟩
  case round =>
    obtain ⟨k, hk, rfl, rfl⟩ := hrel
    by_cases hlt : k < n
    · obtain ⟨b, o, rfl, hc⟩ := h.at hlt
      obtain ⟨h1, h2⟩ := hb k hlt
      obtain ⟨h3, h4⟩ := sumTo_bd hb k (by omega)
      go_wp2
      go_round
      case rel => exact ⟨k + 1, by omega, by go_num, rfl⟩
      case measure => simp [intOf]; omega
    · obtain rfl : k = n := by omega
      go_wp2
      go_ret
      exact ⟨rfl, rfl⟩
end Go.Proofs.Ytkgikehagkpmoaa
