import Derived.Test.YtoeimngbpagegaaDoorBase
namespace Go.Proofs.YtoeimngbpagegaaDoor
open Go.RowKit

/-- The place of x in the first n of f, -1: it is not there. -/
def idxI (f : Nat → Int) (x : Int) : Nat → Int
  | 0 => -1
  | k + 1 => if idxI f x k = -1 then (if f k = x then (k : Int) else -1) else idxI f x k
theorem idxI_none {f : Nat → Int} {x : Int} {k : Nat} (h : ∀ j, j < k → f j ≠ x) : idxI f x k = -1 := by
  induction k with
  | zero => rfl
  | succ k ih => simp [idxI, ih (fun j hj => h j (by omega)), h k (by omega)]
theorem idxI_some {f : Nat → Int} {x : Int} {k : Nat} (h : ∀ j, j < k → f j ≠ x) (hk : f k = x) : ∀ K, k < K → idxI f x K = k := by
  intro K hK
  induction K with
  | zero => omega
  | succ K ih =>
    rcases Nat.lt_or_ge k K with hl | hl
    · have := ih hl
      simp only [idxI, this]
      rw [if_neg (by omega)]
    · obtain rfl : K = k := by omega
      simp [idxI, idxI_none h, hk]
theorem idxI_cases (f : Nat → Int) (x : Int) (n : Nat) : (idxI f x n = -1 ∧ ∀ j, j < n → f j ≠ x) ∨ ∃ k, k < n ∧ idxI f x n = (k : Int) ∧ f k = x ∧ ∀ j, j < k → f j ≠ x := by
  induction n with
  | zero => exact .inl ⟨rfl, fun j hj => absurd hj (by omega)⟩
  | succ n ih =>
    rcases ih with ⟨e, h⟩ | ⟨k, hk, e, h1, h2⟩
    · by_cases hx : f n = x
      · exact .inr ⟨n, by omega, by simp [idxI, e, hx], hx, h⟩
      · refine .inl ⟨by simp [idxI, e, hx], fun j hj => ?_⟩
        rcases Nat.lt_or_ge j n with hl | hl
        · exact h j hl
        · obtain rfl : j = n := by omega
          exact hx
    · exact .inr ⟨k, by omega, by simp only [idxI, e]; rw [if_neg (by omega)], h1, h2⟩

set_option maxHeartbeats 1000000 in
theorem index_any (A : Option Addr) (n c : Nat) (f : Nat → Int) (x : Int) (w : World) (h : Ints w A n f) (hn : n ≤ 10000) :
    Calls Tryd.prog 78 #[.slice A n c, .int .i64 x] w fun e w' => e = .returned (.int .i64 (idxI f x n)) ∧ w = w' := by
  have H := Lib.hid h
  clear h
  go_enter Tryd.func78, Tryd.ntmps78
  go_wp2
  go_loop [8] (fun i => ∃ k : Nat, k ≤ n ∧ i = .int .i64 k ∧ ∀ j, j < k → f j ≠ x) (fun i => n - (intOf i).toNat)
  case atStart => exact ⟨0, Nat.zero_le _, rfl, fun j hj => absurd hj (by omega)⟩
  case round =>
    obtain ⟨k, hk, rfl, he⟩ := hrel
    have HE := Lib.hid he
    clear he
    by_cases hlt : k < n
    · obtain ⟨b, o, rfl, hc⟩ := H.out.at hlt
      by_cases hx : f k = x
      · have hB := beq_t hx.symm
        have HR : Hid (idxI f x n = k) := Lib.hid (idxI_some HE.out hx n hlt)
        clear hx
        go_wp2
        go_ret
        exact ⟨ret_int HR.out.symm, rfl⟩
      · have hB := beq_f (fun e => hx (Eq.symm e) : ¬ x = f k)
        have HE2 : Hid (∀ j, j < k + 1 → f j ≠ x) := Lib.hid (fun j hj => by
          rcases Nat.lt_or_ge j k with hl | hl
          · exact HE.out j hl
          · obtain rfl : j = k := by omega
            exact hx)
        clear hx
        go_wp2
        go_round
        case rel => exact ⟨k + 1, by omega, by go_num, HE2.out⟩
        case measure => simp [intOf]; omega
    · obtain rfl : n = k := by omega
      go_wp2
      go_ret
      exact ⟨ret_int (idxI_none HE.out).symm, rfl⟩
/-- x is among the first n. -/
def hasB (f : Nat → Int) (x : Int) (n : Nat) : Bool := decide (0 ≤ idxI f x n)
theorem contains_any (A : Option Addr) (n c : Nat) (f : Nat → Int) (x : Int) (w : World) (h : Ints w A n f) (hn : n ≤ 10000) :
    Calls Tryd.prog 51 #[.slice A n c, .int .i64 x] w fun e w' => e = .returned (.bool (hasB f x n)) ∧ w = w' := by
  have H := Lib.hid h
  clear h
  go_enter Tryd.func51, Tryd.ntmps51
  go_wp2_with fail
  refine (index_any A n c f x _ H.out hn).mono ?_
  rintro e w' ⟨rfl, rfl⟩
  have hq : hasB f x n = decide (0 ≤ idxI f x n) := rfl
  rcases Int.lt_or_le (idxI f x n) 0 with h0 | h0
  · have HQ : Hid (hasB f x n = false) := Lib.hid (by rw [hq]; exact decide_eq_false (by omega))
    clear hq
    go_wp2
    go_ret
    exact ⟨ret_bool (by first | (rw [HQ.out]; done) | (rw [HQ.out]; exact decide_eq_false (by omega))), rfl⟩
  · have HQ : Hid (hasB f x n = true) := Lib.hid (by rw [hq]; exact decide_eq_true h0)
    clear hq
    go_wp2
    go_ret
    exact ⟨ret_bool (by first | (rw [HQ.out]; done) | (rw [HQ.out]; exact decide_eq_true h0)), rfl⟩
end Go.Proofs.YtoeimngbpagegaaDoor
