/- Overload: the program's search and the reference's. -/
import Derived.Test.YthbahfmcmbjglaaQl
namespace Go.Proofs.Ythbahfmcmbjglaa
open Go.RowKit

/-- What must be done between a and b. -/
def ldF (J : Nat → Nat → Int) (a b : Int) : Nat → Int
  | 0 => 0
  | k + 1 => ldF J a b k + (if a ≤ J k 1 ∧ J k 2 ≤ b then J k 0 else 0)
theorem ldF_succ (J : Nat → Nat → Int) (a b : Int) (k : Nat) : ldF J a b (k + 1) = ldF J a b k + (if a ≤ J k 1 ∧ J k 2 ≤ b then J k 0 else 0) := rfl
theorem ldF_rng {n : Nat} {J : Nat → Nat → Int} (h : okJ n J = true) (a b : Int) : ∀ k, k ≤ n → 0 ≤ ldF J a b k ∧ ldF J a b k ≤ 20 * k := by
  intro k
  induction k with
  | zero => intro _; simp [ldF]
  | succ k ih =>
    intro hk
    have h1 := ih (by omega)
    have h2 := (okJ_iff.1 h).2 k (by omega)
    rw [ldF_succ]
    push_cast
    split <;> omega

set_option maxHeartbeats 1000000 in
set_option maxRecDepth 1000000 in
theorem load_any (A : Option Addr) (n c : Nat) (J : Nat → Nat → Int) (a b : Int) (w : World) (h : Recs 4 w A n J) (hok : okJ n J = true) :
    Lr 44 #[.slice A n c, .int .i64 a, .int .i64 b] w (.int .i64 (ldF J a b n)) := by
  unfold Lr
  have H := Lib.hid h
  have HO := Lib.hid hok
  have hn8 := (okJ_iff.1 hok).1.2
  clear h hok
  go_enter Try.func44, Try.ntmps44
  go_wp2
  have HR := Lib.hid (ldF_rng HO.out a b)
  go_loopw [7, 12] (fun s i wr => ∃ k : Nat, k ≤ n ∧ i = .int .i64 k ∧ s = .int .i64 (ldF J a b k) ∧ Below w.heap.size w wr) (fun _ i _ => n - (intOf i).toNat)
  case atStart => exact ⟨0, Nat.zero_le _, rfl, rfl, Below.refl _ _⟩
  case round =>
    obtain ⟨k, hk, rfl, rfl, hD⟩ := hrel
    have hr := HR.out k hk
    by_cases hlt : k < n
    · obtain ⟨b2, o, rfl, c0, c1, c2, c3⟩ := (H.out.keep hD).four hlt
      have hJ := (okJ_iff.1 HO.out).2 k hlt
      obtain ⟨⟨hJ1, hJ2⟩, -⟩ := hJ
      have HS := Lib.hid (ldF_succ J a b k)
      have hk8 : (k : Int) < 8 := by omega
      obtain ⟨hr1, hr2⟩ := hr
      generalize ldF J a b k = sm at *
      by_cases h1 : a ≤ J k 1
      · by_cases h2 : J k 2 ≤ b
        · have HE : Hid (ldF J a b (k + 1) = sm + J k 0) := Lib.hid (by rw [HS.out, if_pos ⟨h1, h2⟩])
          go_wp2
          go_roundw
          case rel => exact ⟨k + 1, by omega, by go_num, by rw [HE.out], hD.alloc hD.size _⟩
          case measure => simp [intOf]; omega
        · have HE : Hid (ldF J a b (k + 1) = sm) := Lib.hid (by rw [HS.out, if_neg (fun h => h2 h.2), Int.add_zero])
          go_wp2
          go_roundw
          case rel => exact ⟨k + 1, by omega, by go_num, by rw [HE.out], hD.alloc hD.size _⟩
          case measure => simp [intOf]; omega
      · have HE : Hid (ldF J a b (k + 1) = sm) := Lib.hid (by rw [HS.out, if_neg (fun h => h1 h.1), Int.add_zero])
        go_wp2
        go_roundw
        case rel => exact ⟨k + 1, by omega, by go_num, by rw [HE.out], hD.alloc hD.size _⟩
        case measure => simp [intOf]; omega
    · obtain rfl : n = k := by omega
      go_wp2
      go_ret
      exact ⟨rfl, hD⟩
set_option maxHeartbeats 1000000 in
set_option maxRecDepth 1000000 in
theorem refLoaded_any (A : Option Addr) (n c : Nat) (J : Nat → Nat → Int) (a b : Int) (w : World) (h : Recs 4 w A n J) (hok : okJ n J = true) (ha : 0 ≤ a) (hb : b ≤ 1000) (hab : a ≤ b) :
    Lr 47 #[.slice A n c, .int .i64 a, .int .i64 b] w (.bool (decide (b - a < ldF J a b n))) := by
  unfold Lr
  have H := Lib.hid h
  have HO := Lib.hid hok
  have hn8 := (okJ_iff.1 hok).1.2
  clear h hok
  go_enter Try.func47, Try.ntmps47
  go_wp2
  have HR := Lib.hid (ldF_rng HO.out a b)
  go_loopw [7, 12] (fun s i wr => ∃ k : Nat, k ≤ n ∧ i = .int .i64 k ∧ s = .int .i64 (ldF J a b k) ∧ Below w.heap.size w wr) (fun _ i _ => n - (intOf i).toNat)
  case atStart => exact ⟨0, Nat.zero_le _, rfl, rfl, Below.refl _ _⟩
  case round =>
    obtain ⟨k, hk, rfl, rfl, hD⟩ := hrel
    have hr := HR.out k hk
    by_cases hlt : k < n
    · obtain ⟨b2, o, rfl, c0, c1, c2, c3⟩ := (H.out.keep hD).four hlt
      have hJ := (okJ_iff.1 HO.out).2 k hlt
      obtain ⟨⟨hJ1, hJ2⟩, -⟩ := hJ
      have HS := Lib.hid (ldF_succ J a b k)
      have hk8 : (k : Int) < 8 := by omega
      obtain ⟨hr1, hr2⟩ := hr
      generalize ldF J a b k = sm at *
      by_cases h1 : a ≤ J k 1
      · by_cases h2 : J k 2 ≤ b
        · have HE : Hid (ldF J a b (k + 1) = sm + J k 0) := Lib.hid (by rw [HS.out, if_pos ⟨h1, h2⟩])
          go_wp2
          go_roundw
          case rel => exact ⟨k + 1, by omega, by go_num, by rw [HE.out], hD.alloc hD.size _⟩
          case measure => simp [intOf]; omega
        · have HE : Hid (ldF J a b (k + 1) = sm) := Lib.hid (by rw [HS.out, if_neg (fun h => h2 h.2), Int.add_zero])
          go_wp2
          go_roundw
          case rel => exact ⟨k + 1, by omega, by go_num, by rw [HE.out], hD.alloc hD.size _⟩
          case measure => simp [intOf]; omega
      · have HE : Hid (ldF J a b (k + 1) = sm) := Lib.hid (by rw [HS.out, if_neg (fun h => h1 h.1), Int.add_zero])
        go_wp2
        go_roundw
        case rel => exact ⟨k + 1, by omega, by go_num, by rw [HE.out], hD.alloc hD.size _⟩
        case measure => simp [intOf]; omega
    · obtain rfl : n = k := by omega
      go_wp2
      go_ret
      exact ⟨rfl, hD⟩
end Go.Proofs.Ythbahfmcmbjglaa
