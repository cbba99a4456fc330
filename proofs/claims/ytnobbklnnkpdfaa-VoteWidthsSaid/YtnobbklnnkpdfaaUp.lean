/- upTo. -/
import Derived.Test.YtnobbklnnkpdfaaOn
import Derived.Test.YtnobbklnnkpdfaaOd
import Derived.Test.YtnobbklnnkpdfaaRowI
import Derived.Test.YtnobbklnnkpdfaaExc
namespace Go.Proofs.Ytnobbklnnkpdfaa
open Go.RowKit

set_option maxHeartbeats 1000000 in
set_option maxRecDepth 1000000 in
theorem upTo_any (n : Nat) (w : World) (hn : n ≤ 9) :
    Calls Try.prog 37 #[.int .i64 n] w fun e w' => e = .returned (.slice (some ⟨w.heap.size, 0, none⟩) n n) ∧ RowI w' w.heap.size n (fun j => (j : Int)) ∧ Exc w.heap.size w w' := by
  have hmk := mk_ints n (by omega)
  go_enter Try.func37, Try.ntmps37
  go_wp2
  clear hmk
  go_loopw [8] (fun i wr => ∃ j : Nat, j ≤ n ∧ i = .int .i64 j ∧ RowI wr w.heap.size n (fun q => if q < j then (q : Int) else 0) ∧ Exc w.heap.size w wr) (fun i _ => n - (intOf i).toNat)
  case atStart => exact ⟨0, Nat.zero_le _, rfl, (RowI.made w n).congr (fun i _ => by simp), Exc.of_below ((Below.refl _ w).alloc (Nat.le_refl _) _)⟩
  case round =>
    obtain ⟨j, hj, rfl, hR, hE⟩ := hrel
    have HR := Lib.hid hR
    have HE := Lib.hid hE
    clear hR hE
    by_cases hlt : j < n
    · have hc := HR.out.cell hlt
      have hf := HR.out.frozen j
      go_wp2
      go_roundw
      case rel =>
        refine ⟨j + 1, by omega, by go_num, (HR.out.set j (j : Int)).congr (fun i _ => ?_), HE.out.set j _⟩
        unfold upd
        by_cases e : i = j
        · rw [if_pos e, if_pos (by omega), e]
        · rw [if_neg e]
          show (if i < j then (i : Int) else 0) = _
          by_cases e2 : i < j
          · rw [if_pos e2, if_pos (by omega)]
          · rw [if_neg e2, if_neg (by omega)]
      case measure => simp [intOf]; omega
    · have hjn : j = n := by omega
      go_wp2
      go_ret
      exact ⟨rfl, HR.out.congr (fun i hi => by rw [if_pos (by omega)]), HE.out⟩
end Go.Proofs.Ytnobbklnnkpdfaa
