import Derived.Test.YtkgikehagkpmoaaLeast1
import Derived.Test.YtkgikehagkpmoaaNash
import Derived.Test.YtkgikehagkpmoaaLex
namespace Go.Proofs.Ytkgikehagkpmoaa
open Go.RowKit

theorem call_least1 (args : Array Value) (w : World) : (callFunc 52 args).run Try.prog w = .ok (.enter 52 args) w := by
  have h1 : Try.f52.name ≠ "runtime.NumGoroutine" := by decide
  have hb : ∃ c, Try.f52.body = some c := ⟨_, rfl⟩
  obtain ⟨c, hb⟩ := hb
  simp [callFunc, Try.func52, h1, hb]

def leastS (v : Nat → Nat → Int) (n m : Nat) : Nat → Nat → Int := sco (scoreL n) v n m
def leastI (v : Nat → Nat → Int) (n m : Nat) : Nat := bst (leastS v n m) n (n ^ m)

theorem Least_bad (A : Option Addr) (n c : Nat) (L : Nat → Nat) (v : Nat → Nat → Int) (w : World) (h : Rows2 w A n L v) (hn : n ≤ 9) (hL : Short n L) (hbad : okVals n L v = false) :
    Calls Try.prog 27 #[.slice A n c] w fun e w' => e = .returned (.tuple #[.slice none 0 0, .int .i64 2]) ∧ w = w' := by
  have HB := Lib.hid hbad
  clear hbad
  go_enter Try.func27, Try.ntmps27
  go_wp2_with fail
  refine (validValues_any _ _ _ _ _ _ h hn hL).mono ?_
  rintro e w' ⟨rfl, rfl⟩
  rw [HB.out]
  go_wp2
  go_ret2
  exact ⟨rfl, rfl⟩

set_option maxRecDepth 1000000 in
theorem Least_ok (A : Option Addr) (n c : Nat) (L : Nat → Nat) (v : Nat → Nat → Int) (w : World) (h : Rows2 w A n L v) (hn : n ≤ 9) (hL : Short n L) (hok : okVals n L v = true) :
    Calls Try.prog 27 #[.slice A n c] w fun e w' => ∃ vb, e = .returned (.tuple #[vb, .int .i64 0]) ∧
      OwnL w' w.heap.size vb (lst (L 0) (dg n (L 0) (leastI v n (L 0)))) ∧ Below w.heap.size w w' := by
  obtain ⟨h1, h2, h3, h4, h5, h6⟩ := okVals_of hok
  have HM := Lib.hid (okVals_mat h hok)
  have HB := Lib.hid hok
  have H6 := Lib.hid h6
  clear hok h5 h6
  go_enter Try.func27, Try.ntmps27
  go_wp2_with fail
  refine (validValues_any _ _ _ _ _ _ h hn hL).mono ?_
  rintro e w' ⟨rfl, rfl⟩
  rw [HB.out]
  go_wp2_with fail
  refine (greatest_any w 52 call_least1 (scoreL n) n A c n (L 0) v (score_least n h1 h2) HM.out H6.out h1 h2 h4 h1 hn).mono ?_
  rintro e w5 ⟨vb, vt, rfl, hvb, hvt, hb5⟩
  obtain ⟨ab, cb, rfl, -⟩ := hvb.sl0
  have HVb := Lib.hid hvb
  have Hb5 := Lib.hid hb5
  clear hvb hvt hb5
  go_wp2
  go_ret2
  exact ⟨_, rfl, HVb.out, Hb5.out⟩
end Go.Proofs.Ytkgikehagkpmoaa
