/- The reference's Best. -/
import Derived.Test.YtjomkbdelgnkcaaRq
import Derived.IntWalk
namespace Go.Proofs.Ytjomkbdelgnkcaa
open Go.RowKit

theorem bit_one (s x : Nat) : (bits .and .i64 ((s : Int) / 2 ^ x) 1 == 1) = bitN s x := by
  have h2 : bits .and .i64 ((s : Int) / 2 ^ x) 1 = ((s / 2 ^ x % 2 : Nat) : Int) := by
    have e : ((s : Int) / 2 ^ x) = ((s / 2 ^ x : Nat) : Int) := by push_cast; rfl
    rw [e, i64_and1]
    omega
  rw [h2]
  unfold bitN
  generalize s / 2 ^ x % 2 = z
  rw [Bool.eq_iff_iff]
  simp
  omega
theorem bit_nil (s x : Nat) : (bits .and .i64 ((s : Int) / 2 ^ x) 1 == 0) = !bitN s x := by
  have h2 : bits .and .i64 ((s : Int) / 2 ^ x) 1 = ((s / 2 ^ x % 2 : Nat) : Int) := by
    have e : ((s : Int) / 2 ^ x) = ((s / 2 ^ x : Nat) : Int) := by push_cast; rfl
    rw [e, i64_and1]
    omega
  rw [h2]
  unfold bitN
  rcases Nat.mod_two_eq_zero_or_one (s / 2 ^ x) with h | h <;> rw [h] <;> rfl
theorem pow_wrap (c : Nat) (hc : c ≤ 9) : wrap64 ((2 : Int) ^ c) = ((2 ^ c : Nat) : Int) := by
  have hM : 2 ^ c ≤ 512 := by
    have : 2 ^ c ≤ 2 ^ 9 := Nat.pow_le_pow_right (by omega) hc
    omega
  have e : ((2 ^ c : Nat) : Int) = (2 : Int) ^ c := by push_cast; rfl
  rw [← e]
  generalize 2 ^ c = M at hM
  exact IntWalk.wrap64_in _ ⟨by omega, by omega⟩

end Go.Proofs.Ytjomkbdelgnkcaa
