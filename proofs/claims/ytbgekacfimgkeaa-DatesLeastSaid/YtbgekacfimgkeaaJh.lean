/- How many bits a set has. -/
import Derived.Test.YtbgekacfimgkeaaJg
namespace Go.Proofs.Ytbgekacfimgkeaa
open Go.RowKit

theorem ctS_n (s : Nat) : ∀ n, ctS s n = ((List.range n).map fun k => if btN s k = true then (1 : Int) else 0).sum := by
  intro n
  induction n with
  | zero => rfl
  | succ n ih =>
    have : ctS s (n + 1) = ctS s n + if btN s n = true then 1 else 0 := rfl
    rw [this, ih, List.range_succ, List.map_append, List.sum_append]
    simp
/-- A set without its least bit. -/
def lwX (s : Nat) : Nat := s &&& (s - 1)
def pc8 (s : Nat) : Nat := s % 2 + s / 2 % 2 + s / 4 % 2 + s / 8 % 2 + s / 16 % 2 + s / 32 % 2 + s / 64 % 2 + s / 128 % 2
theorem lwX_spec : ∀ s, s < 256 → 0 < s → bits .and .i64 ((s : Nat) : Int) ((s - 1 : Nat) : Int) = ((lwX s : Nat) : Int) ∧ lwX s < s ∧ pc8 (lwX s) + 1 = pc8 s := by decide +kernel
theorem pc8_ct (s : Nat) : ctS s 8 = (pc8 s : Int) := by
  have h : ∀ k, (if btN s k = true then (1 : Int) else 0) = ((s / 2 ^ k % 2 : Nat) : Int) := fun k => by
    unfold btN
    rcases Nat.mod_two_eq_zero_or_one (s / 2 ^ k) with h | h <;> simp [h]
  unfold ctS
  simp only [smT, h]
  unfold pc8
  simp only [show 2 ^ 0 = 1 from rfl, show 2 ^ 1 = 2 from rfl, show 2 ^ 2 = 4 from rfl, show 2 ^ 3 = 8 from rfl, show 2 ^ 4 = 16 from rfl, show 2 ^ 5 = 32 from rfl, show 2 ^ 6 = 64 from rfl, show 2 ^ 7 = 128 from rfl, Nat.div_one]
  omega
theorem ctS_8 {s n : Nat} (hn : n ≤ 8) (hs : s < 2 ^ n) : ctS s n = ctS s 8 := by
  unfold ctS
  exact (smT_part hn (fun k h1 h2 => by
    have h3 := Nat.pow_le_pow_right (n := 2) (by omega) h1
    have h4 : s / 2 ^ k = 0 := Nat.div_eq_of_lt (by omega)
    unfold btN
    rw [h4]
    simp)).symm
theorem hvF_val {g : Nat → Int} {ok : Nat → Bool} (h0 : g 0 = 0) : ∀ N, (hvF g ok N).2 = g (hvF g ok N).1 := by
  intro N
  induction N with
  | zero => exact h0.symm
  | succ N ih =>
    rw [hvF]
    split
    · rfl
    · exact ih
theorem hvF_lt (g : Nat → Int) (ok : Nat → Bool) : ∀ N, 0 < N → (hvF g ok N).1 < N := by
  intro N hN
  obtain ⟨M, rfl⟩ : ∃ M, N = M + 1 := ⟨N - 1, by omega⟩
  have := hvF_le g ok M
  rw [hvF]
  split
  · show M < M + 1
    omega
  · omega
theorem wtS_none (n : Nat) (wt : Nat → Int) : wtS n wt 0 = 0 := by
  unfold wtS
  rw [smT_part (n := 0) (Nat.zero_le _) (fun k _ _ => by simp [btN])]
  rfl
/-- What is chosen fits. -/
theorem hvF_ok {g : Nat → Int} {ok : Nat → Bool} (h0 : ok 0 = true) : ∀ N, ok (hvF g ok N).1 = true := by
  intro N
  induction N with
  | zero => exact h0
  | succ N ih =>
    rw [hvF]
    split
    · rename_i hh
      exact hh.2
    · exact ih
theorem hvF_max {g : Nat → Int} {ok : Nat → Bool} : ∀ N s, s < N → ok s = true → g s ≤ (hvF g ok N).2 := by
  intro N
  induction N with
  | zero => intro s h; omega
  | succ N ih =>
    intro s hs hok
    rw [hvF]
    by_cases e : s = N
    · subst e
      split
      · exact Int.le_refl _
      · rename_i hh
        rcases Int.lt_or_le (hvF g ok s).2 (g s) with h | h
        · exact absurd ⟨h, hok⟩ hh
        · exact h
    · have := ih s (by omega) hok
      split
      · rename_i hh
        show g s ≤ g N
        omega
      · exact this
end Go.Proofs.Ytbgekacfimgkeaa
