/- bits.OnesCount of small sets; rise, factorial; slices of fractions in a block; Shapley. -/
import Derived.Test.YtoeimngbpagegaaDoorGe
namespace Go.Proofs.YtoeimngbpagegaaDoor
open Go.RowKit

def pcS (s : Nat) : Nat := s % 2 + s / 2 % 2 + s / 4 % 2 + s / 8 % 2
set_option maxHeartbeats 4000000 in
set_option maxRecDepth 1000000 in
theorem ones64G_any (s : Nat) (hs : s < 16) (w : World) : Calls Tryd.prog 88 #[.int .u64 s] w fun e w' => e = .returned (.int .i64 (pcS s : Int)) ∧ w = w' := by
  have : s = 0 ∨ s = 1 ∨ s = 2 ∨ s = 3 ∨ s = 4 ∨ s = 5 ∨ s = 6 ∨ s = 7 ∨ s = 8 ∨ s = 9 ∨ s = 10 ∨ s = 11 ∨ s = 12 ∨ s = 13 ∨ s = 14 ∨ s = 15 := by omega
  rcases this with rfl | rfl | rfl | rfl | rfl | rfl | rfl | rfl | rfl | rfl | rfl | rfl | rfl | rfl | rfl | rfl
  all_goals
    go_enter Tryd.func88, Tryd.ntmps88
    go_wp2
    go_ret
    exact ⟨ret_int (by decide +kernel), rfl⟩
theorem onesG_any (s : Nat) (hs : s < 16) (w : World) : Calls Tryd.prog 70 #[.int .u64 s] w fun e w' => e = .returned (.int .i64 (pcS s : Int)) ∧ w = w' := by
  have H := Lib.hid (ones64G_any s hs w)
  go_enter Tryd.func70, Tryd.ntmps70
  go_wp2_with fail
  refine H.out.mono ?_
  rintro e w' ⟨rfl, rfl⟩
  go_wp2
  go_ret
  exact ⟨rfl, rfl⟩

def facN : Nat → Nat
  | 0 => 1
  | n + 1 => facN n * (n + 1)
set_option maxHeartbeats 1000000 in
theorem factorial_any (n : Nat) (hn : n ≤ 4) (w : World) : Calls Tryd.prog 71 #[.int .i64 n] w fun e w' => e = .returned (.int .i64 (facN n : Nat)) ∧ w = w' := by
  have : n = 0 ∨ n = 1 ∨ n = 2 ∨ n = 3 ∨ n = 4 := by omega
  have HF : Hid (∀ k, k ≤ 4 → facN k ≤ 24) := Lib.hid (by decide)
  have HS : Hid (∀ k, facN (k + 1) = facN k * (k + 1)) := Lib.hid (fun _ => rfl)
  clear this
  go_enter Tryd.func71, Tryd.ntmps71
  go_wp2
  go_loop [3, 6] (fun o i => ∃ k : Nat, k ≤ n ∧ i = .int .i64 k ∧ o = .int .i64 (facN k : Nat)) (fun _ i => n - (intOf i).toNat)
  case atStart => exact ⟨0, Nat.zero_le _, rfl, rfl⟩
  case round =>
    obtain ⟨k, hk, rfl, rfl⟩ := hrel
    by_cases hlt : k < n
    · have hf := HF.out k (by omega)
      have HS2 := Lib.hid (HS.out k)
      generalize facN k = f at *
      have hk4 : k ≤ 3 := by omega
      have hw : wrap64 ((f : Int) * ((k : Int) + 1)) = (f : Int) * ((k : Int) + 1) := IntWalk.wrap64_in _ (by
        have e : ((f : Int) * ((k : Int) + 1)) = ((f * (k + 1) : Nat) : Int) := by push_cast; rfl
        rw [e]
        have : f * (k + 1) ≤ 24 * 4 := Nat.mul_le_mul hf (by omega)
        omega)
      go_wp2
      go_round
      case rel => exact ⟨k + 1, by omega, by go_num, by rw [HS2.out]; go_num⟩
      case measure => simp [intOf]; omega
    · obtain rfl : k = n := by omega
      go_wp2
      go_ret
      exact ⟨rfl, rfl⟩

theorem or_eval : ∀ s : Nat, s < 16 → ∀ p : Nat, p < 4 → bits .or .i64 (s : Int) ((2 ^ p : Nat) : Int) = ((s ||| 2 ^ p : Nat) : Int) := by decide +kernel
theorem or_eval2 : ∀ s : Nat, s < 16 → ∀ p : Nat, p < 4 → bits .or .i64 (s : Int) (wrap64 (2 ^ p)) = ((s ||| 2 ^ p : Nat) : Int) := by decide +kernel
theorem or_eval3 : ∀ s : Nat, s < 16 → ∀ p : Nat, p < 4 → bits .or .i64 (s : Int) (IntKind.i64.wrap (2 ^ p)) = ((s ||| 2 ^ p : Nat) : Int) := by decide +kernel
/-- What the cost of a set rises by when a player joins it. -/
def riF (C : Nat → Int) (s p : Nat) : Int := C (s ||| 2 ^ p) - C s
set_option maxHeartbeats 1000000 in
theorem rise_any (A : Option Addr) (L c : Nat) (C : Nat → Int) (s p : Nat) (w : World) (h : Ints w A L C) (hL : L ≤ 16) (hs : s < L) (hp : p < 4) (hsp : s ||| 2 ^ p < L) (hC : ∀ k, k < L → 0 ≤ C k ∧ C k ≤ 1000) :
    Calls Tryd.prog 68 #[.slice A L c, .int .i64 s, .int .i64 p] w fun e w' => e = .returned (.int .i64 (riF C s p)) ∧ Dn w w' := by
  have h1 := hC s hs
  have h2 := hC _ hsp
  obtain ⟨b, o, rfl, c1⟩ := h.at hs
  have c2 := h.cell hsp
  have hor := or_eval2 s (by omega) p hp
  have hor3 := or_eval3 s (by omega) p hp
  have HR : Hid (C (s ||| 2 ^ p) - C s = riF C s p) := Lib.hid rfl
  generalize s ||| 2 ^ p = t at *
  obtain ⟨h1a, h1b⟩ := h1
  obtain ⟨h2a, h2b⟩ := h2
  clear h hC
  generalize C t = x at *
  generalize C s = y at *
  go_enter Tryd.func68, Tryd.ntmps68
  go_wp2
  go_region
  go_wp2
  go_ret
  exact ⟨ret_int HR.out, (Dn.refl _).drew⟩
end Go.Proofs.YtoeimngbpagegaaDoor
