import Derived.Test.YtkgikehagkpmoaaT1
namespace Go.Proofs.Ytkgikehagkpmoaa
open Go.RowKit

theorem Bd.zero {f : Nat → Int} {m : Int} : Bd 0 f m := fun _ h => absurd h (by omega)
theorem Bd.succ {k : Nat} {f : Nat → Int} {m : Int} (h : Bd k f m) (h1 : 0 ≤ f k) (h2 : f k ≤ m) : Bd (k + 1) f m := fun j hj => by
  rcases Nat.lt_or_ge j k with hl | hl
  · exact h j hl
  · obtain rfl : j = k := by omega
    exact ⟨h1, h2⟩
theorem Bd.le {n : Nat} {f : Nat → Int} {m m' : Int} (h : Bd n f m) (hm : m ≤ m') : Bd n f m' := fun k hk => ⟨(h k hk).1, Int.le_trans (h k hk).2 hm⟩
instance (n : Nat) (f : Nat → Int) (m : Int) : Decidable (Bd n f m) := by unfold Bd; infer_instance

/-- What the goods of owner j in d are worth by a row, of the first k goods. -/
def wTo (f d : Nat → Int) (j : Int) : Nat → Int
  | 0 => 0
  | k + 1 => if d k = j then wTo f d j k + f k else wTo f d j k

theorem wTo_yes {f d : Nat → Int} {j : Int} {k : Nat} (h : d k = j) : wTo f d j (k + 1) = wTo f d j k + f k := by simp [wTo, h]
theorem wTo_no {f d : Nat → Int} {j : Int} {k : Nat} (h : ¬ d k = j) : wTo f d j (k + 1) = wTo f d j k := by simp [wTo, h]
theorem wTo_bd {n : Nat} {f : Nat → Int} {m : Int} (h : Bd n f m) (d : Nat → Int) (j : Int) (k : Nat) (hk : k ≤ n) : 0 ≤ wTo f d j k ∧ wTo f d j k ≤ sumTo f k := by
  induction k with
  | zero => simp [wTo, sumTo]
  | succ k ih =>
    have h1 := h k (by omega)
    have h2 := ih (by omega)
    by_cases e : d k = j
    · rw [wTo_yes e]; simp only [sumTo]; omega
    · rw [wTo_no e]; simp only [sumTo]; omega

theorem worthOf_any (A D : Option Addr) (n c c' : Nat) (f d : Nat → Int) (j : Int) (w : World) (h : Ints w A n f) (hd : Ints w D n d) (hb : Bd n f 100000) (hn : n ≤ 9) :
    Calls Try.prog 80 #[.slice A n c, .slice D n c', .int .i64 j] w fun e w' => e = .returned (.int .i64 (wTo f d j n)) ∧ w = w' := by
  go_enter Try.func80, Try.ntmps80
  go_wp2
  go_loop [7, 12] (fun s i => ∃ k : Nat, k ≤ n ∧ i = .int .i64 k ∧ s = .int .i64 (wTo f d j k)) (fun _ i => n - (intOf i).toNat)
  case atStart => exact ⟨0, Nat.zero_le _, rfl, rfl⟩
  case round =>
    obtain ⟨k, hk, rfl, rfl⟩ := hrel
    by_cases hlt : k < n
    · obtain ⟨b, o, rfl, hc⟩ := h.at hlt
      obtain ⟨b', o', rfl, hc'⟩ := hd.at hlt
      obtain ⟨h1, h2⟩ := hb k hlt
      obtain ⟨h3, h4⟩ := wTo_bd hb d j k (by omega)
      obtain ⟨h5, h6⟩ := sumTo_bd hb k (by omega)
      by_cases e : d k = j
      · have HE := Lib.hid (wTo_yes (f := f) e)
        have hB : (d k == j) = true := by simpa using e
        clear e
        go_wp2
        go_round
        case rel => exact ⟨k + 1, by omega, by go_num, by rw [HE.out]⟩
        case measure => simp [intOf]; omega
      · have HE := Lib.hid (wTo_no (f := f) e)
        have hB : (d k == j) = false := by simpa using e
        clear e
        go_wp2
        go_round
        case rel => exact ⟨k + 1, by omega, by go_num, by rw [HE.out]⟩
        case measure => simp [intOf]; omega
    · obtain rfl : k = n := by omega
      go_wp2
      go_ret
      exact ⟨rfl, rfl⟩

def okRow (n : Nat) (f : Nat → Int) : Bool := decide (1 ≤ n ∧ n ≤ 7 ∧ Bd n f 100)

theorem validRow_any (A : Option Addr) (n c : Nat) (f : Nat → Int) (w : World) (h : Ints w A n f) (hn : n ≤ 9) :
    Calls Try.prog 62 #[.slice A n c] w fun e w' => e = .returned (.bool (okRow n f)) ∧ w = w' := by
  by_cases h0 : 1 ≤ n ∧ n ≤ 7
  · obtain ⟨h0, h7⟩ := h0
    go_enter Try.func62, Try.ntmps62
    go_wp2
    go_loop [15] (fun i => ∃ k : Nat, k ≤ n ∧ i = .int .i64 k ∧ Bd k f 100) (fun i => n - (intOf i).toNat)
    case atStart => exact ⟨0, Nat.zero_le _, rfl, Bd.zero⟩
    case round =>
      obtain ⟨k, hk, rfl, hb⟩ := hrel
      by_cases hlt : k < n
      · obtain ⟨b, o, rfl, hc⟩ := h.at hlt
        by_cases hok : 0 ≤ f k ∧ f k ≤ 100
        · obtain ⟨h1, h2⟩ := hok
          go_wp2
          go_round
          case rel => exact ⟨k + 1, by omega, by go_num, hb.succ h1 h2⟩
          case measure => simp [intOf]; omega
        · have HE : Hid (okRow n f = false) := Lib.hid (by simp only [okRow, decide_eq_false_iff_not]; intro hh; exact hok (hh.2.2 k hlt))
          by_cases h1 : f k < 0
          · clear hok
            go_wp2
            go_ret
            exact ⟨ret_bool HE.out.symm, rfl⟩
          · have h2 : 100 < f k := by omega
            clear hok
            go_wp2
            go_ret
            exact ⟨ret_bool HE.out.symm, rfl⟩
      · obtain rfl : k = n := by omega
        go_wp2
        go_ret
        exact ⟨ret_bool (by symm; simp only [okRow, decide_eq_true_eq]; exact ⟨h0, h7, hb⟩), rfl⟩
  · have e : okRow n f = false := by simp only [okRow, decide_eq_false_iff_not]; intro hh; omega
    rw [e]
    by_cases h1 : n < 1
    · go_enter Try.func62, Try.ntmps62
      go_wp2
      go_ret
      exact ⟨rfl, rfl⟩
    · have h7 : 7 < n := by omega
      clear h0
      go_enter Try.func62, Try.ntmps62
      go_wp2
      go_ret
      exact ⟨rfl, rfl⟩
end Go.Proofs.Ytkgikehagkpmoaa
