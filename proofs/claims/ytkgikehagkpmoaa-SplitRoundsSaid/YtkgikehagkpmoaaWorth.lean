import Derived.Test.YtkgikehagkpmoaaT5
namespace Go.Proofs.Ytkgikehagkpmoaa
open Go.RowKit

theorem lworth_any (A D : Option Addr) (n m c c' : Nat) (v : Nat → Nat → Int) (d : Nat → Int) (i : Nat) (j : Int) (w : World) (h : Mat w A n m v) (hd : Ints w D m d) (hb : BdM n m v 100000) (hm : m ≤ 9) (hi : i < n) (_hn : n ≤ 9) :
    Calls Try.prog 32 #[.slice A n c, .slice D m c', .int .i64 i, .int .i64 j] w fun e w' => e = .returned (.int .i64 (wTo (v i) d j m)) ∧ w = w' := by
  obtain ⟨b, o, R, cR, rfl, hc, hR⟩ := h.at hi
  have HB := Lib.hid (hb i hi)
  clear hb
  go_enter Try.func32, Try.ntmps32
  go_wp2
  go_loop [9, 14] (fun s x => ∃ k : Nat, k ≤ m ∧ x = .int .i64 k ∧ s = .int .i64 (wTo (v i) d j k)) (fun _ x => m - (intOf x).toNat)
  case atStart => exact ⟨0, Nat.zero_le _, rfl, rfl⟩
  case round =>
    obtain ⟨k, hk, rfl, rfl⟩ := hrel
    by_cases hlt : k < m
    · obtain ⟨b1, o1, rfl, hc1⟩ := hR.at hlt
      obtain ⟨b', o', rfl, hc'⟩ := hd.at hlt
      obtain ⟨h1, h2⟩ := HB.out k hlt
      obtain ⟨h3, h4⟩ := wTo_bd HB.out d j k (by omega)
      obtain ⟨h5, h6⟩ := sumTo_bd HB.out k (by omega)
      by_cases e : d k = j
      · have HE := Lib.hid (wTo_yes (f := v i) e)
        have hB := beq_t e
        clear e
        go_wp2
        go_round
        case rel => exact ⟨k + 1, by omega, by go_num, by rw [HE.out]⟩
        case measure => simp [intOf]; omega
      · have HE := Lib.hid (wTo_no (f := v i) e)
        have hB := beq_f e
        clear e
        go_wp2
        go_round
        case rel => exact ⟨k + 1, by omega, by go_num, by rw [HE.out]⟩
        case measure => simp [intOf]; omega
    · obtain rfl : k = m := by omega
      go_wp2
      go_ret
      exact ⟨rfl, rfl⟩

end Go.Proofs.Ytkgikehagkpmoaa
