import Derived.Test.YtkgikehagkpmoaaT3
namespace Go.Proofs.Ytkgikehagkpmoaa
open Go.RowKit

/-- md owners, each of the n people. -/
def Own (n md : Nat) (d : Nat → Int) : Prop := ∀ g, g < md → 0 ≤ d g ∧ d g < n
instance (n md : Nat) (d : Nat → Int) : Decidable (Own n md d) := by unfold Own; infer_instance
theorem Own.zero {n : Nat} {d : Nat → Int} : Own n 0 d := fun _ h => absurd h (by omega)
theorem Own.succ {n k : Nat} {d : Nat → Int} (h : Own n k d) (h1 : 0 ≤ d k) (h2 : d k < n) : Own n (k + 1) d := fun j hj => by
  rcases Nat.lt_or_ge j k with hl | hl
  · exact h j hl
  · obtain rfl : j = k := by omega
    exact ⟨h1, h2⟩
def okDiv (n : Nat) (L : Nat → Nat) (v : Nat → Nat → Int) (md : Nat) (d : Nat → Int) : Bool := okVals n L v && decide (md = L 0 ∧ Own n md d)

theorem validDivision_any (A D : Option Addr) (n c md c' : Nat) (L : Nat → Nat) (v : Nat → Nat → Int) (d : Nat → Int) (w : World) (h : Rows2 w A n L v) (hd : Ints w D md d) (hn : n ≤ 9) (hL : Short n L) (hmd : md ≤ 9) :
    Calls Try.prog 58 #[.slice A n c, .slice D md c'] w fun e w' => e = .returned (.bool (okDiv n L v md d)) ∧ w = w' := by
  cases ho : okVals n L v with
  | false =>
    have HE : Hid (okDiv n L v md d = false) := Lib.hid (by simp [okDiv, ho])
    have HO := Lib.hid ho
    clear ho
    go_enter Try.func58, Try.ntmps58
    go_wp2_with fail
    refine (validValues_any _ _ _ _ _ _ h hn hL).mono ?_
    rintro e w' ⟨rfl, rfl⟩
    rw [HO.out]
    go_wp2
    go_ret
    exact ⟨ret_bool HE.out.symm, rfl⟩
  | true =>
    have hv := ho
    simp only [okVals, decide_eq_true_eq] at hv
    obtain ⟨hn1, hn4, -⟩ := hv
    obtain ⟨b, o, R, cR, rfl, -, -⟩ := h.at (i := 0) (by omega)
    obtain ⟨R0, c0, hc0, _⟩ := h.cell0 (by omega)
    have hL0 := hL 0 (by omega)
    have HO := Lib.hid ho
    by_cases he : md = L 0
    · have HE := Lib.hid he
      have hB := bne_f (a := (md : Int)) (b := (L 0 : Int)) (by omega)
      clear he ho
      go_enter Try.func58, Try.ntmps58
      go_wp2_with fail
      refine (validValues_any _ _ _ _ _ _ h hn hL).mono ?_
      rintro e w' ⟨rfl, rfl⟩
      rw [HO.out]
      go_wp2
      go_loop [21] (fun x => ∃ k : Nat, k ≤ md ∧ x = .int .i64 k ∧ Own n k d) (fun x => md - (intOf x).toNat)
      case atStart => exact ⟨0, Nat.zero_le _, rfl, Own.zero⟩
      case round =>
        obtain ⟨k, hk, rfl, hO⟩ := hrel
        by_cases hlt : k < md
        · obtain ⟨b', o', rfl, hc'⟩ := hd.at hlt
          by_cases e1 : d k < 0
          · have HF : Hid (okDiv n L v md d = false) := Lib.hid (by simp only [okDiv, Bool.and_eq_false_iff, decide_eq_false_iff_not]; exact Or.inr (fun hh => by have := hh.2 k hlt; omega))
            go_wp2
            go_ret
            exact ⟨ret_bool HF.out.symm, rfl⟩
          · by_cases e2 : d k < n
            · go_wp2
              go_round
              case rel => exact ⟨k + 1, by omega, by go_num, hO.succ (by omega) e2⟩
              case measure => simp [intOf]; omega
            · have HF : Hid (okDiv n L v md d = false) := Lib.hid (by simp only [okDiv, Bool.and_eq_false_iff, decide_eq_false_iff_not]; exact Or.inr (fun hh => by have := hh.2 k hlt; omega))
              go_wp2
              go_ret
              exact ⟨ret_bool HF.out.symm, rfl⟩
        · obtain rfl : k = md := by omega
          go_wp2
          go_ret
          exact ⟨ret_bool (by symm; simp only [okDiv, HO.out, Bool.true_and, decide_eq_true_eq]; exact ⟨HE.out, hO⟩), rfl⟩
    · have HE : Hid (okDiv n L v md d = false) := Lib.hid (by simp [okDiv, he])
      have hB := bne_t (a := (md : Int)) (b := (L 0 : Int)) (by omega)
      clear he ho
      go_enter Try.func58, Try.ntmps58
      go_wp2_with fail
      refine (validValues_any _ _ _ _ _ _ h hn hL).mono ?_
      rintro e w' ⟨rfl, rfl⟩
      rw [HO.out]
      go_wp2
      go_ret
      exact ⟨ret_bool HE.out.symm, rfl⟩
end Go.Proofs.Ytkgikehagkpmoaa
