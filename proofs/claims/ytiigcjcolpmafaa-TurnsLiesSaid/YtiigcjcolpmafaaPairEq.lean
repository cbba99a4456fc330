import Derived.Test.YtiigcjcolpmafaaOwn
import Derived.ChangeKeysEq
namespace Go.Proofs.Ytiigcjcolpmafaa
open Go.RowKit

theorem pair_equalIn (p q p' q' : Int) (w : World) : (Op.equalIn 10000 43 (.agg #[.int .i64 p, .int .i64 q]) (.agg #[.int .i64 p', .int .i64 q'])).run Try.prog w = .ok (p == p' && q == q') w := by
  obtain ⟨i0, hi0, hz0, hz1, hz2⟩ := info_parts infoInt
  have e1 : ∀ (x y : Int) (w : World), (Op.equalIn 9999 3 (.int .i64 x) (.int .i64 y)).run Try.prog w = .ok (x == y) w := fun x y w => run_equalIn_int (P := Try.prog) w 9998 3 .i64 .i64 x y Try.underlying3
  have hc : Try.prog.cellsOf 3 = 1 := by kernel_rfl
  have p0 : ∀ (x y : Int) (w : World), (part 3 #[.int .i64 x, .int .i64 y] 0).run Try.prog w = .ok (.int .i64 x) w := fun x y w => by kernel_rfl
  have p1 : ∀ (x y : Int) (w : World), (part 3 #[.int .i64 x, .int .i64 y] 1).run Try.prog w = .ok (.int .i64 y) w := fun x y w => by kernel_rfl
  rw [run_equalIn_array w 9999 _ _ Try.underlying43 hi0, hc, show List.range 2 = [0, 1] from rfl]
  simp only [Op.eqItems, Sem.run_bind, Nat.zero_mul, Nat.one_mul, p0, p1, e1, Result.andThen_ok]
  cases hp : (p == p') <;> cases hq : (q == q') <;> simp [p1, e1, hq]

theorem pair_neq (p q p' q' : Int) (w : World) : (binOp .neq 43 (.agg #[.int .i64 p, .int .i64 q]) (.agg #[.int .i64 p', .int .i64 q'])).run Try.prog w = .ok (.bool (!(p == p' && q == q'))) w := by
  rw [run_neq_struct, pair_equalIn]
  rfl
theorem pair_eql (p q p' q' : Int) (w : World) : (binOp .eql 43 (.agg #[.int .i64 p, .int .i64 q]) (.agg #[.int .i64 p', .int .i64 q'])).run Try.prog w = .ok (.bool (p == p' && q == q')) w := by
  rw [run_eql_struct, pair_equalIn]
  rfl
end Go.Proofs.Ytiigcjcolpmafaa
