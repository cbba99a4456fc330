/- The reference's step. -/
import Derived.Test.YtclhamemlpbpiaaHg
namespace Go.Proofs.Ytclhamemlpbpiaa
open Go.RowKit

def jnP (F : Nat → Nat → Int) (a b : Int) (k : Nat) : Prop := (F k 0 = a ∧ F k 1 = b) ∨ (F k 0 = b ∧ F k 1 = a)
instance (F : Nat → Nat → Int) (a b : Int) (k : Nat) : Decidable (jnP F a b k) := by unfold jnP; infer_instance
/-- The least cost of a road between two stops, -1: there is none. -/
def stR (F : Nat → Nat → Int) (a b : Int) : Nat → Int
  | 0 => -1
  | k + 1 => if jnP F a b k ∧ (stR F a b k < 0 ∨ F k 2 < stR F a b k) then F k 2 else stR F a b k
set_option maxHeartbeats 2000000 in
set_option maxRecDepth 1000000 in
theorem step_any (A : Option Addr) (m c : Nat) (N a b : Int) (F : Nat → Nat → Int) (w : World) (h : Recs 3 w A m F) (hm : m ≤ 10000) :
    Lr 35 #[.agg #[.int .i64 N, .slice A m c], .int .i64 a, .int .i64 b] w (.int .i64 (stR F a b m)) := by
  unfold Lr
  have H := Lib.hid h
  have HB0 := Lib.hid ((Below.refl w.heap.size w).alloc (Nat.le_refl _) (.cells #[.int .i64 N, .slice A m c] 24))
  clear h
  go_enter Try.func35, Try.ntmps35
  go_wp2
  go_loopw [7, 13] (fun v i wr => ∃ k : Nat, k ≤ m ∧ i = .int .i64 k ∧ v = .int .i64 (stR F a b k) ∧ Below w.heap.size w wr) (fun _ i _ => m - (intOf i).toNat)
  case atStart => exact ⟨0, Nat.zero_le _, rfl, rfl, HB0.out⟩
  case round =>
    obtain ⟨k, hk, rfl, rfl, hD⟩ := hrel
    by_cases hlt : k < m
    · obtain ⟨q, o, rfl, c0, c1, c2⟩ := (H.out.keep hD).three hlt
      have HD := Lib.hid (hD.alloc hD.size (.cells #[.int .i64 (F k 0), .int .i64 (F k 1), .int .i64 (F k 2)] 65))
      have HT : Hid (jnP F a b k → (stR F a b k < 0 ∨ F k 2 < stR F a b k) → stR F a b (k + 1) = F k 2) := Lib.hid (fun h1 h2 => by rw [stR, if_pos ⟨h1, h2⟩])
      have HS : Hid (¬ jnP F a b k ∨ ¬ (stR F a b k < 0 ∨ F k 2 < stR F a b k) → stR F a b (k + 1) = stR F a b k) := Lib.hid (fun h => by rw [stR, if_neg (fun h2 => by rcases h with h | h; exact h h2.1; exact h h2.2)])
      have HJ : Hid (jnP F a b k ↔ (F k 0 = a ∧ F k 1 = b) ∨ (F k 0 = b ∧ F k 1 = a)) := Lib.hid Iff.rfl
      clear hD
      generalize jnP F a b k = JP at *
      generalize F k 0 = f0 at *
      generalize F k 1 = f1 at *
      generalize F k 2 = f2 at *
      generalize stR F a b k = S at *
      by_cases e1 : f0 = a
      · have be1 := beq_t e1
        by_cases e2 : f1 = b
        · have be2 := beq_t e2
          by_cases h5 : S < 0
          · have d5 : decide (S < 0) = true := decide_eq_true h5
            have HE := Lib.hid (show stR F a b (k + 1) = f2 from HT.out (HJ.out.2 (.inl ⟨e1, e2⟩)) (.inl h5))
            clear e1 e2
            go_wp2
            go_roundw
            case rel => exact ⟨k + 1, by omega, by go_num, by rw [HE.out], HD.out⟩
            case measure => simp [intOf]; omega
          · have d5 : decide (S < 0) = false := decide_eq_false h5
            by_cases h6 : f2 < S
            · have d6 : decide (f2 < S) = true := decide_eq_true h6
              have HE := Lib.hid (show stR F a b (k + 1) = f2 from HT.out (HJ.out.2 (.inl ⟨e1, e2⟩)) (.inr h6))
              clear e1 e2
              go_wp2
              go_roundw
              case rel => exact ⟨k + 1, by omega, by go_num, by rw [HE.out], HD.out⟩
              case measure => simp [intOf]; omega
            · have d6 : decide (f2 < S) = false := decide_eq_false h6
              have HE := Lib.hid (show stR F a b (k + 1) = S from HS.out (.inr (fun h => by rcases h with h | h; exact h5 h; exact h6 h)))
              clear e1 e2
              go_wp2
              go_roundw
              case rel => exact ⟨k + 1, by omega, by go_num, by rw [HE.out], HD.out⟩
              case measure => simp [intOf]; omega
        · have be2 := beq_f e2
          by_cases e3 : f0 = b
          · have be3 := beq_t e3
            by_cases e4 : f1 = a
            · have be4 := beq_t e4
              by_cases h5 : S < 0
              · have d5 : decide (S < 0) = true := decide_eq_true h5
                have HE := Lib.hid (show stR F a b (k + 1) = f2 from HT.out (HJ.out.2 (.inr ⟨e3, e4⟩)) (.inl h5))
                clear e1 e2 e3 e4
                go_wp2
                go_roundw
                case rel => exact ⟨k + 1, by omega, by go_num, by rw [HE.out], HD.out⟩
                case measure => simp [intOf]; omega
              · have d5 : decide (S < 0) = false := decide_eq_false h5
                by_cases h6 : f2 < S
                · have d6 : decide (f2 < S) = true := decide_eq_true h6
                  have HE := Lib.hid (show stR F a b (k + 1) = f2 from HT.out (HJ.out.2 (.inr ⟨e3, e4⟩)) (.inr h6))
                  clear e1 e2 e3 e4
                  go_wp2
                  go_roundw
                  case rel => exact ⟨k + 1, by omega, by go_num, by rw [HE.out], HD.out⟩
                  case measure => simp [intOf]; omega
                · have d6 : decide (f2 < S) = false := decide_eq_false h6
                  have HE := Lib.hid (show stR F a b (k + 1) = S from HS.out (.inr (fun h => by rcases h with h | h; exact h5 h; exact h6 h)))
                  clear e1 e2 e3 e4
                  go_wp2
                  go_roundw
                  case rel => exact ⟨k + 1, by omega, by go_num, by rw [HE.out], HD.out⟩
                  case measure => simp [intOf]; omega
            · have be4 := beq_f e4
              have HE := Lib.hid (show stR F a b (k + 1) = S from HS.out (.inl (fun h => by have h := HJ.out.1 h; rcases h with ⟨h1, h2⟩ | ⟨h1, h2⟩ <;> first | exact absurd h1 (by assumption) | exact absurd h2 (by assumption))))
              clear e1 e2 e3 e4
              go_wp2
              go_roundw
              case rel => exact ⟨k + 1, by omega, by go_num, by rw [HE.out], HD.out⟩
              case measure => simp [intOf]; omega
          · have be3 := beq_f e3
            have HE := Lib.hid (show stR F a b (k + 1) = S from HS.out (.inl (fun h => by have h := HJ.out.1 h; rcases h with ⟨h1, h2⟩ | ⟨h1, h2⟩ <;> first | exact absurd h1 (by assumption) | exact absurd h2 (by assumption))))
            clear e1 e2 e3
            go_wp2
            go_roundw
            case rel => exact ⟨k + 1, by omega, by go_num, by rw [HE.out], HD.out⟩
            case measure => simp [intOf]; omega
      · have be1 := beq_f e1
        by_cases e3 : f0 = b
        · have be3 := beq_t e3
          by_cases e4 : f1 = a
          · have be4 := beq_t e4
            by_cases h5 : S < 0
            · have d5 : decide (S < 0) = true := decide_eq_true h5
              have HE := Lib.hid (show stR F a b (k + 1) = f2 from HT.out (HJ.out.2 (.inr ⟨e3, e4⟩)) (.inl h5))
              clear e1 e3 e4
              go_wp2
              go_roundw
              case rel => exact ⟨k + 1, by omega, by go_num, by rw [HE.out], HD.out⟩
              case measure => simp [intOf]; omega
            · have d5 : decide (S < 0) = false := decide_eq_false h5
              by_cases h6 : f2 < S
              · have d6 : decide (f2 < S) = true := decide_eq_true h6
                have HE := Lib.hid (show stR F a b (k + 1) = f2 from HT.out (HJ.out.2 (.inr ⟨e3, e4⟩)) (.inr h6))
                clear e1 e3 e4
                go_wp2
                go_roundw
                case rel => exact ⟨k + 1, by omega, by go_num, by rw [HE.out], HD.out⟩
                case measure => simp [intOf]; omega
              · have d6 : decide (f2 < S) = false := decide_eq_false h6
                have HE := Lib.hid (show stR F a b (k + 1) = S from HS.out (.inr (fun h => by rcases h with h | h; exact h5 h; exact h6 h)))
                clear e1 e3 e4
                go_wp2
                go_roundw
                case rel => exact ⟨k + 1, by omega, by go_num, by rw [HE.out], HD.out⟩
                case measure => simp [intOf]; omega
          · have be4 := beq_f e4
            have HE := Lib.hid (show stR F a b (k + 1) = S from HS.out (.inl (fun h => by have h := HJ.out.1 h; rcases h with ⟨h1, h2⟩ | ⟨h1, h2⟩ <;> first | exact absurd h1 (by assumption) | exact absurd h2 (by assumption))))
            clear e1 e3 e4
            go_wp2
            go_roundw
            case rel => exact ⟨k + 1, by omega, by go_num, by rw [HE.out], HD.out⟩
            case measure => simp [intOf]; omega
        · have be3 := beq_f e3
          have HE := Lib.hid (show stR F a b (k + 1) = S from HS.out (.inl (fun h => by have h := HJ.out.1 h; rcases h with ⟨h1, h2⟩ | ⟨h1, h2⟩ <;> first | exact absurd h1 (by assumption) | exact absurd h2 (by assumption))))
          clear e1 e3
          go_wp2
          go_roundw
          case rel => exact ⟨k + 1, by omega, by go_num, by rw [HE.out], HD.out⟩
          case measure => simp [intOf]; omega
    · obtain rfl : k = m := by omega
      go_wp2
      go_ret
      exact ⟨rfl, hD⟩
end Go.Proofs.Ytclhamemlpbpiaa
