import Derived.Test.YtkgikehagkpmoaaT2
namespace Go.Proofs.Ytkgikehagkpmoaa
open Go.RowKit

/-- All n rows are valid and as long as the first one. -/
def RowsOk (n : Nat) (L : Nat → Nat) (v : Nat → Nat → Int) : Prop := ∀ i, i < n → okRow (L i) (v i) = true ∧ L i = L 0
instance (n : Nat) (L : Nat → Nat) (v : Nat → Nat → Int) : Decidable (RowsOk n L v) := by unfold RowsOk; infer_instance
def okVals (n : Nat) (L : Nat → Nat) (v : Nat → Nat → Int) : Bool := decide (1 ≤ n ∧ n ≤ 4 ∧ RowsOk n L v)
theorem RowsOk.zero {L : Nat → Nat} {v : Nat → Nat → Int} : RowsOk 0 L v := fun _ h => absurd h (by omega)
theorem RowsOk.succ {k : Nat} {L : Nat → Nat} {v : Nat → Nat → Int} (h : RowsOk k L v) (h1 : okRow (L k) (v k) = true) (h2 : L k = L 0) : RowsOk (k + 1) L v := fun j hj => by
  rcases Nat.lt_or_ge j k with hl | hl
  · exact h j hl
  · obtain rfl : j = k := by omega
    exact ⟨h1, h2⟩

def Short (n : Nat) (L : Nat → Nat) : Prop := ∀ i, i < n → L i ≤ 9

theorem validValues_any (A : Option Addr) (n c : Nat) (L : Nat → Nat) (v : Nat → Nat → Int) (w : World) (h : Rows2 w A n L v) (hn : n ≤ 9) (hL : Short n L) :
    Calls Try.prog 37 #[.slice A n c] w fun e w' => e = .returned (.bool (okVals n L v)) ∧ w = w' := by
  by_cases h0 : 1 ≤ n ∧ n ≤ 4
  · obtain ⟨h0, h7⟩ := h0
    go_enter Try.func37, Try.ntmps37
    go_wp2
    go_loop [15] (fun i => ∃ k : Nat, k ≤ n ∧ i = .int .i64 k ∧ RowsOk k L v) (fun i => n - (intOf i).toNat)
    case atStart => exact ⟨0, Nat.zero_le _, rfl, RowsOk.zero⟩
    case round =>
      obtain ⟨k, hk, rfl, hb⟩ := hrel
      by_cases hlt : k < n
      · obtain ⟨b, o, R, cR, rfl, hc, hR⟩ := h.at hlt
        obtain ⟨R0, c0, hc0, _⟩ := h.cell0 (by omega)
        have hLk := hL k hlt
        have hL0 := hL 0 (by omega)
        by_cases hok : okRow (L k) (v k) = true
        · by_cases heq : L k = L 0
          · have HE := Lib.hid heq
            have HO := Lib.hid hok
            have h1 := bne_f (a := (L k : Int)) (b := (L 0 : Int)) (by omega)
            clear heq hok
            go_wp2_with fail
            refine (validRow_any _ _ _ _ _ hR hLk).mono ?_
            rintro e w' ⟨rfl, rfl⟩
            rw [HO.out]
            go_wp2
            go_round
            case rel => exact ⟨k + 1, by omega, by go_num, hb.succ HO.out HE.out⟩
            case measure => simp [intOf]; omega
          · have HE : Hid (okVals n L v = false) := Lib.hid (by simp only [okVals, decide_eq_false_iff_not]; intro hh; exact heq (hh.2.2 k hlt).2)
            have HO := Lib.hid hok
            have h1 := bne_t (a := (L k : Int)) (b := (L 0 : Int)) (by omega)
            clear heq hok
            go_wp2_with fail
            refine (validRow_any _ _ _ _ _ hR hLk).mono ?_
            rintro e w' ⟨rfl, rfl⟩
            rw [HO.out]
            go_wp2
            go_ret
            exact ⟨ret_bool HE.out.symm, rfl⟩
        · have HE : Hid (okVals n L v = false) := Lib.hid (by simp only [okVals, decide_eq_false_iff_not]; intro hh; exact hok (hh.2.2 k hlt).1)
          have HO : Hid (okRow (L k) (v k) = false) := Lib.hid (by simpa using hok)
          clear hok
          go_wp2_with fail
          refine (validRow_any _ _ _ _ _ hR hLk).mono ?_
          rintro e w' ⟨rfl, rfl⟩
          rw [HO.out]
          go_wp2
          go_ret
          exact ⟨ret_bool HE.out.symm, rfl⟩
      · obtain rfl : k = n := by omega
        go_wp2
        go_ret
        exact ⟨ret_bool (by symm; simp only [okVals, decide_eq_true_eq]; exact ⟨h0, h7, hb⟩), rfl⟩
  · have e : okVals n L v = false := by simp only [okVals, decide_eq_false_iff_not]; intro hh; omega
    rw [e]
    by_cases h1 : n < 1
    · go_enter Try.func37, Try.ntmps37
      go_wp2
      go_ret
      exact ⟨rfl, rfl⟩
    · have h7 : 4 < n := by omega
      clear h0
      go_enter Try.func37, Try.ntmps37
      go_wp2
      go_ret
      exact ⟨rfl, rfl⟩
end Go.Proofs.Ytkgikehagkpmoaa
