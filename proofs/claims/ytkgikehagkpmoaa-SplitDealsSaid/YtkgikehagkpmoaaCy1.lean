import Derived.Test.YtkgikehagkpmoaaT6
import Derived.Test.YtkgikehagkpmoaaT5
import Derived.Test.YtkgikehagkpmoaaGr1
import Derived.Test.YtkgikehagkpmoaaAppAny
namespace Go.Proofs.Ytkgikehagkpmoaa
open Go.RowKit

/-- Somebody envies j. -/
def envdB (n m : Nat) (v : Nat → Nat → Int) (d : Nat → Int) (j : Nat) : Bool := anyB (fun i => envB m v d i (j : Int)) n
/-- The first person whom nobody envies, -1: there is none. -/
def calmI (n m : Nat) (v : Nat → Nat → Int) (d : Nat → Int) : Nat → Int
  | 0 => -1
  | k + 1 => if calmI n m v d k = -1 then (if envdB n m v d k then -1 else (k : Int)) else calmI n m v d k
theorem calmI_none {n m : Nat} {v : Nat → Nat → Int} {d : Nat → Int} {k : Nat} (h : ∀ j, j < k → envdB n m v d j = true) : calmI n m v d k = -1 := by
  induction k with
  | zero => rfl
  | succ k ih => simp [calmI, ih (fun j hj => h j (by omega)), h k (by omega)]
theorem calmI_some {n m : Nat} {v : Nat → Nat → Int} {d : Nat → Int} {k : Nat} (h : ∀ j, j < k → envdB n m v d j = true) (hk : envdB n m v d k = false) : ∀ K, k < K → calmI n m v d K = k := by
  intro K hK
  induction K with
  | zero => omega
  | succ K ih =>
    rcases Nat.lt_or_ge k K with hl | hl
    · have := ih hl
      simp only [calmI, this]
      rw [if_neg (by omega)]
    · obtain rfl : K = k := by omega
      simp [calmI, calmI_none h, hk]

set_option maxHeartbeats 1000000 in
theorem envied_any (A D : Option Addr) (n m c c' : Nat) (v : Nat → Nat → Int) (d : Nat → Int) (j : Nat) (w : World) (h : Mat w A n m v) (hd : Ints w D m d) (hb : BdM n m v 100000) (hm : m ≤ 9) (hn : n ≤ 9) :
    Ro 81 #[.slice A n c, .slice D m c', .int .i64 j] w (.bool (envdB n m v d j)) := by
  refine Ro.of ?_
  have H := Lib.hid h
  have HD := Lib.hid hd
  have HB := Lib.hid hb
  clear h hd hb
  go_enter Try.func81, Try.ntmps81
  go_wp2
  go_loopw [10] (fun x wr => ∃ k : Nat, k ≤ n ∧ x = .int .i64 k ∧ NoneLt (fun i => envB m v d i (j : Int)) k ∧ Dn w wr) (fun x _ => n - (intOf x).toNat)
  case atStart => exact ⟨0, Nat.zero_le _, rfl, NoneLt.zero, Dn.refl _⟩
  case round =>
    obtain ⟨k, hk, rfl, hN, hD⟩ := hrel
    have HN := Lib.hid hN
    clear hN
    by_cases hlt : k < n
    · go_wp2_with fail
      refine Ro.use (envies_any _ _ n m _ _ v d k j _ (H.out.dn hD) (HD.out.dn hD) HB.out hm hlt hn) ?_
      intro w2 hD2
      cases he : envB m v d k (j : Int) with
      | true =>
        have HE : Hid (envdB n m v d j = true) := Lib.hid (anyB_t hlt he)
        clear he
        go_wp2
        go_ret
        exact ⟨ret_bool HE.out.symm, hD.trans hD2⟩
      | false =>
        have HN2 := Lib.hid (HN.out.succ he)
        clear he
        go_wp2
        go_roundw
        case rel => exact ⟨k + 1, by omega, by go_num, HN2.out, hD.trans hD2⟩
        case measure => simp [intOf]; omega
    · obtain rfl : n = k := by omega
      go_wp2
      go_ret
      exact ⟨ret_bool (anyB_f HN.out).symm, hD⟩

set_option maxHeartbeats 1000000 in
theorem unenvied_any (A D : Option Addr) (n m c c' : Nat) (v : Nat → Nat → Int) (d : Nat → Int) (w : World) (h : Mat w A n m v) (hd : Ints w D m d) (hb : BdM n m v 100000) (hm : m ≤ 9) (hn : n ≤ 9) :
    Ro 63 #[.slice A n c, .slice D m c'] w (.int .i64 (calmI n m v d n)) := by
  refine Ro.of ?_
  have H := Lib.hid h
  have HD := Lib.hid hd
  have HB := Lib.hid hb
  clear h hd hb
  go_enter Try.func63, Try.ntmps63
  go_wp2
  go_loopw [8] (fun x wr => ∃ k : Nat, k ≤ n ∧ x = .int .i64 k ∧ (∀ j, j < k → envdB n m v d j = true) ∧ Dn w wr) (fun x _ => n - (intOf x).toNat)
  case atStart => exact ⟨0, Nat.zero_le _, rfl, fun j hj => absurd hj (by omega), Dn.refl _⟩
  case round =>
    obtain ⟨k, hk, rfl, hN, hD⟩ := hrel
    have HN := Lib.hid hN
    clear hN
    by_cases hlt : k < n
    · go_wp2_with fail
      refine Ro.use (envied_any _ _ n m _ _ v d k _ (H.out.dn hD) (HD.out.dn hD) HB.out hm hn) ?_
      intro w2 hD2
      cases he : envdB n m v d k with
      | false =>
        have HE : Hid (calmI n m v d n = k) := Lib.hid (calmI_some HN.out he n hlt)
        clear he
        go_wp2
        go_ret
        exact ⟨ret_int HE.out.symm, hD.trans hD2⟩
      | true =>
        have HN2 : Hid (∀ j, j < k + 1 → envdB n m v d j = true) := Lib.hid (fun j hj => by
          rcases Nat.lt_or_ge j k with hl | hl
          · exact HN.out j hl
          · obtain rfl : j = k := by omega
            exact he)
        clear he
        go_wp2
        go_roundw
        case rel => exact ⟨k + 1, by omega, by go_num, HN2.out, hD.trans hD2⟩
        case measure => simp [intOf]; omega
    · obtain rfl : n = k := by omega
      go_wp2
      go_ret
      exact ⟨ret_int (calmI_none HN.out).symm, hD⟩

/-- The place of x in the first n of f, -1: it is not there. -/
def idxI (f : Nat → Int) (x : Int) : Nat → Int
  | 0 => -1
  | k + 1 => if idxI f x k = -1 then (if f k = x then (k : Int) else -1) else idxI f x k
theorem idxI_none {f : Nat → Int} {x : Int} {k : Nat} (h : ∀ j, j < k → f j ≠ x) : idxI f x k = -1 := by
  induction k with
  | zero => rfl
  | succ k ih => simp [idxI, ih (fun j hj => h j (by omega)), h k (by omega)]
theorem idxI_some {f : Nat → Int} {x : Int} {k : Nat} (h : ∀ j, j < k → f j ≠ x) (hk : f k = x) : ∀ K, k < K → idxI f x K = k := by
  intro K hK
  induction K with
  | zero => omega
  | succ K ih =>
    rcases Nat.lt_or_ge k K with hl | hl
    · have := ih hl
      simp only [idxI, this]
      rw [if_neg (by omega)]
    · obtain rfl : K = k := by omega
      simp [idxI, idxI_none h, hk]
theorem idxI_cases (f : Nat → Int) (x : Int) (n : Nat) : (idxI f x n = -1 ∧ ∀ j, j < n → f j ≠ x) ∨ ∃ k, k < n ∧ idxI f x n = (k : Int) ∧ f k = x ∧ ∀ j, j < k → f j ≠ x := by
  induction n with
  | zero => exact .inl ⟨rfl, fun j hj => absurd hj (by omega)⟩
  | succ n ih =>
    rcases ih with ⟨e, h⟩ | ⟨k, hk, e, h1, h2⟩
    · by_cases hx : f n = x
      · exact .inr ⟨n, by omega, by simp [idxI, e, hx], hx, h⟩
      · refine .inl ⟨by simp [idxI, e, hx], fun j hj => ?_⟩
        rcases Nat.lt_or_ge j n with hl | hl
        · exact h j hl
        · obtain rfl : j = n := by omega
          exact hx
    · exact .inr ⟨k, by omega, by simp only [idxI, e]; rw [if_neg (by omega)], h1, h2⟩

set_option maxHeartbeats 1000000 in
theorem index_any (A : Option Addr) (n c : Nat) (f : Nat → Int) (x : Int) (w : World) (h : Ints w A n f) (hn : n ≤ 10000) :
    Calls Try.prog 82 #[.slice A n c, .int .i64 x] w fun e w' => e = .returned (.int .i64 (idxI f x n)) ∧ w = w' := by
  have H := Lib.hid h
  clear h
  go_enter Try.func82, Try.ntmps82
  go_wp2
  go_loop [8] (fun i => ∃ k : Nat, k ≤ n ∧ i = .int .i64 k ∧ ∀ j, j < k → f j ≠ x) (fun i => n - (intOf i).toNat)
  case atStart => exact ⟨0, Nat.zero_le _, rfl, fun j hj => absurd hj (by omega)⟩
  case round =>
    obtain ⟨k, hk, rfl, he⟩ := hrel
    have HE := Lib.hid he
    clear he
    by_cases hlt : k < n
    · obtain ⟨b, o, rfl, hc⟩ := H.out.at hlt
      by_cases hx : f k = x
      · have hB := beq_t hx.symm
        have HR : Hid (idxI f x n = k) := Lib.hid (idxI_some HE.out hx n hlt)
        clear hx
        go_wp2
        go_ret
        exact ⟨ret_int HR.out.symm, rfl⟩
      · have hB := beq_f (fun e => hx (Eq.symm e) : ¬ x = f k)
        have HE2 : Hid (∀ j, j < k + 1 → f j ≠ x) := Lib.hid (fun j hj => by
          rcases Nat.lt_or_ge j k with hl | hl
          · exact HE.out j hl
          · obtain rfl : j = k := by omega
            exact hx)
        clear hx
        go_wp2
        go_round
        case rel => exact ⟨k + 1, by omega, by go_num, HE2.out⟩
        case measure => simp [intOf]; omega
    · obtain rfl : n = k := by omega
      go_wp2
      go_ret
      exact ⟨ret_int (idxI_none HE.out).symm, rfl⟩
/-- x is among the first n. -/
def hasB (f : Nat → Int) (x : Int) (n : Nat) : Bool := decide (0 ≤ idxI f x n)
theorem contains_any (A : Option Addr) (n c : Nat) (f : Nat → Int) (x : Int) (w : World) (h : Ints w A n f) (hn : n ≤ 10000) :
    Calls Try.prog 98 #[.slice A n c, .int .i64 x] w fun e w' => e = .returned (.bool (hasB f x n)) ∧ w = w' := by
  have H := Lib.hid h
  clear h
  go_enter Try.func98, Try.ntmps98
  go_wp2_with fail
  refine (index_any A n c f x _ H.out hn).mono ?_
  rintro e w' ⟨rfl, rfl⟩
  have hq : hasB f x n = decide (0 ≤ idxI f x n) := rfl
  rcases Int.lt_or_le (idxI f x n) 0 with h0 | h0
  · have HQ : Hid (hasB f x n = false) := Lib.hid (by rw [hq]; exact decide_eq_false (by omega))
    clear hq
    go_wp2
    go_ret
    exact ⟨ret_bool (by first | (rw [HQ.out]; done) | (rw [HQ.out]; exact decide_eq_false (by omega))), rfl⟩
  · have HQ : Hid (hasB f x n = true) := Lib.hid (by rw [hq]; exact decide_eq_true h0)
    clear hq
    go_wp2
    go_ret
    exact ⟨ret_bool (by first | (rw [HQ.out]; done) | (rw [HQ.out]; exact decide_eq_true h0)), rfl⟩
end Go.Proofs.Ytkgikehagkpmoaa
