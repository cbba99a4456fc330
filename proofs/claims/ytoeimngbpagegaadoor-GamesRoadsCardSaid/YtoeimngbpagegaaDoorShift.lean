import Derived.Test.YtoeimngbpagegaaDoorBase
namespace Go.Proofs.YtoeimngbpagegaaDoor
open Go.RowKit

theorem shl_one (m : Nat) (hm : m ≤ 7) (w : World) : (binOp .shl 3 (.int .i64 1) (.int .i64 m)).run Tryd.prog w = .ok (.int .i64 ((2 ^ m : Nat) : Int)) w := by
  have : m = 0 ∨ m = 1 ∨ m = 2 ∨ m = 3 ∨ m = 4 ∨ m = 5 ∨ m = 6 ∨ m = 7 := by omega
  rcases this with rfl | rfl | rfl | rfl | rfl | rfl | rfl | rfl <;> rfl

theorem shr_nat (s g : Nat) (hg : g < 64) (w : World) : (binOp .shr 3 (.int .i64 s) (.int .i64 g)).run Tryd.prog w = .ok (.int .i64 ((s / 2 ^ g : Nat) : Int)) w := by
  have h0 : ¬ ((g : Int) < 0) := by omega
  have hb : IntKind.i64.bits = 64 := rfl
  have h1 : min (g : Int).toNat IntKind.i64.bits = g := by rw [hb]; simp; omega
  simp only [binOp, Op.shift, h0, if_false, h1]
  have e : (s : Int).fdiv (2 ^ g) = ((s / 2 ^ g : Nat) : Int) := by
    rw [Int.fdiv_eq_ediv_of_nonneg _ (by exact_mod_cast Nat.zero_le (2 ^ g))]
    push_cast
    rfl
  rw [e]
  rfl
theorem i64_and1 (n : Int) : bits .and .i64 n 1 = n % 2 := by
  have h1 : (BitVec.ofInt 64 1).toNat = 2 ^ 1 - 1 := by decide
  have key : (BitVec.ofInt 64 n &&& BitVec.ofInt 64 1).toNat = (n % ((2 ^ 64 : Nat) : Int)).toNat % 2 ^ 1 := by
    rw [BitVec.toNat_and, BitVec.toNat_ofInt, h1, Nat.and_two_pow_sub_one_eq_mod]
  show IntKind.i64.wrap ((BitVec.ofInt 64 n &&& BitVec.ofInt 64 1).toNat : Nat) = n % 2
  rw [key, IntKind.wrap_i64]
  omega
theorem and_one (x : Nat) (w : World) : (binOp .and 3 (.int .i64 x) (.int .i64 1)).run Tryd.prog w = .ok (.int .i64 ((x % 2 : Nat) : Int)) w := by
  have e : bits .and .i64 (x : Int) 1 = ((x % 2 : Nat) : Int) := by rw [i64_and1]; omega
  rw [← e]
  simp only [binOp]
  rfl
end Go.Proofs.YtoeimngbpagegaaDoor
