import Derived.Test.YtkgikehagkpmoaaGr3
import Derived.Test.YtkgikehagkpmoaaT6
namespace Go.Proofs.Ytkgikehagkpmoaa
open Go.RowKit

theorem okVals_of {n : Nat} {L : Nat → Nat} {v : Nat → Nat → Int} (h : okVals n L v = true) : 1 ≤ n ∧ n ≤ 4 ∧ 1 ≤ L 0 ∧ L 0 ≤ 7 ∧ (∀ i, i < n → L i = L 0) ∧ BdM n (L 0) v 100 := by
  simp only [okVals, decide_eq_true_eq] at h
  obtain ⟨h1, h2, h3⟩ := h
  have h4 := (h3 0 (by omega)).1
  simp only [okRow, decide_eq_true_eq] at h4
  refine ⟨h1, h2, h4.1, h4.2.1, fun i hi => (h3 i hi).2, fun i hi => ?_⟩
  have h5 := h3 i hi
  have h6 := h5.1
  simp only [okRow, decide_eq_true_eq] at h6
  rw [← h5.2]
  exact h6.2.2
theorem okVals_mat {w : World} {A : Option Addr} {n : Nat} {L : Nat → Nat} {v : Nat → Nat → Int} (h : Rows2 w A n L v) (ho : okVals n L v = true) : Mat w A n (L 0) v := Mat.of h (okVals_of ho).2.2.2.2.1

theorem score_nash (n : Nat) (hn : n ≤ 4) : ScoreOk 51 n 2 (scoreN n) := fun A c f w h hb => by
  refine (nash1_any A n c f w h hb hn).mono ?_
  rintro e w' ⟨rfl, hR, hB⟩
  exact ⟨_, rfl, OwnL.of_row hR (Nat.le_refl _) (by omega), hB⟩

set_option maxRecDepth 1000000 in
theorem call_nash1 (args : Array Value) (w : World) : (callFunc 51 args).run Try.prog w = .ok (.enter 51 args) w := rfl

def nashS (v : Nat → Nat → Int) (n m : Nat) : Nat → Nat → Int := sco (scoreN n) v n m
def nashI (v : Nat → Nat → Int) (n m : Nat) : Nat := bst (nashS v n m) 2 (n ^ m)

theorem Nash_bad (A : Option Addr) (n c : Nat) (L : Nat → Nat) (v : Nat → Nat → Int) (w : World) (h : Rows2 w A n L v) (hn : n ≤ 9) (hL : Short n L) (hbad : okVals n L v = false) :
    Calls Try.prog 26 #[.slice A n c] w fun e w' => e = .returned (.tuple #[.slice none 0 0, .int .i64 0, .int .i64 2]) ∧ w = w' := by
  have HB := Lib.hid hbad
  clear hbad
  go_enter Try.func26, Try.ntmps26
  go_wp2_with fail
  refine (validValues_any _ _ _ _ _ _ h hn hL).mono ?_
  rintro e w' ⟨rfl, rfl⟩
  rw [HB.out]
  go_wp2
  go_ret3
  exact ⟨rfl, rfl⟩

set_option maxRecDepth 1000000 in
theorem Nash_ok (A : Option Addr) (n c : Nat) (L : Nat → Nat) (v : Nat → Nat → Int) (w : World) (h : Rows2 w A n L v) (hn : n ≤ 9) (hL : Short n L) (hok : okVals n L v = true) :
    Calls Try.prog 26 #[.slice A n c] w fun e w' => ∃ vb, e = .returned (.tuple #[vb, .int .i64 (nashS v n (L 0) (nashI v n (L 0)) 1), .int .i64 0]) ∧
      OwnL w' w.heap.size vb (lst (L 0) (dg n (L 0) (nashI v n (L 0)))) ∧ Below w.heap.size w w' := by
  obtain ⟨h1, h2, h3, h4, h5, h6⟩ := okVals_of hok
  have HM := Lib.hid (okVals_mat h hok)
  have HB := Lib.hid hok
  have H5 := Lib.hid h5
  have H6 := Lib.hid h6
  clear hok h5 h6
  go_enter Try.func26, Try.ntmps26
  go_wp2_with fail
  refine (validValues_any _ _ _ _ _ _ h hn hL).mono ?_
  rintro e w' ⟨rfl, rfl⟩
  rw [HB.out]
  go_wp2_with fail
  refine (greatest_any w 51 call_nash1 (scoreN n) 2 A c n (L 0) v (score_nash n h2) HM.out H6.out h1 h2 h4 (by omega) (by omega)).mono ?_
  rintro e w5 ⟨vb, vt, rfl, hvb, hvt, hb5⟩
  obtain ⟨at_, ct, rfl, hIt⟩ := hvt.sl (by omega)
  obtain ⟨bt, ot, hat, hc1⟩ := hIt.at (k := 1) (by omega)
  obtain rfl := Option.some.inj hat
  obtain ⟨ab, cb, rfl, -⟩ := hvb.sl0
  have HVb := Lib.hid hvb
  have hx : sco (scoreN n) v n (L 0) (bst (sco (scoreN n) v n (L 0)) 2 (n ^ (L 0))) 1 = nashS v n (L 0) (nashI v n (L 0)) 1 := rfl
  rw [hx] at hc1
  clear hx hat hvb hvt hIt
  go_wp2
  go_quiet (fail)
  go_wp2
  go_ret3
  exact ⟨_, rfl, HVb.out, hb5.trans (Dn.below ⟨nq, rfl⟩ _)⟩
end Go.Proofs.Ytkgikehagkpmoaa
