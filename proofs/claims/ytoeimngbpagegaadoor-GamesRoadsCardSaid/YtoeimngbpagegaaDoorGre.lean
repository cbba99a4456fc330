/- The reference's Lengths and Road. -/
import Derived.Test.YtoeimngbpagegaaDoorGrd
import Derived.Test.YtoeimngbpagegaaDoorLl
namespace Go.Proofs.YtoeimngbpagegaaDoor
open Go.RowKit

set_option maxHeartbeats 1000000 in
theorem refLengths_any (A : Option Addr) (n c : Nat) (F : Nat → Int) (w : World) (h : Ints w A n F) (hn : n ≤ maxLen) :
    Calls Tryd.prog 41 #[.slice A n c] w fun e w' => e = .returned (.bool (okL n F)) ∧ w = w' := by
  have HI := Lib.hid h
  have hm : n ≤ 9223372036854775807 := by unfold maxLen at hn; omega
  have HNo : Hid (∀ k, k < n → ¬ (0 ≤ F k ∧ F k ≤ 1000) → okL n F = false) := Lib.hid (fun k hk h => by
    cases e : okL n F with
    | false => rfl
    | true => exact absurd ((okL_iff.1 e).2 k hk) h)
  have HYes : Hid ((∀ k, k < n → 0 ≤ F k ∧ F k ≤ 1000) → okL n F = decide (1 ≤ n ∧ n ≤ 4)) := Lib.hid (fun h => by
    unfold okL
    rw [csB_iff.2 h, Bool.and_true])
  clear h hn
  go_enter Tryd.func41, Tryd.ntmps41
  go_wp2
  go_loopw [7] (fun i wr => ∃ k : Nat, k ≤ n ∧ i = .int .i64 k ∧ (∀ j, j < k → 0 ≤ F j ∧ F j ≤ 1000) ∧ wr = w) (fun i _ => n - (intOf i).toNat)
  case atStart => exact ⟨0, Nat.zero_le _, rfl, fun j hj => by omega, rfl⟩
  case round =>
    obtain ⟨k, hk, rfl, hA, rfl⟩ := hrel
    have HA := Lib.hid hA
    clear hA
    by_cases hlt : k < n
    · obtain ⟨b, o, rfl, c0⟩ := HI.out.at hlt
      have HN := Lib.hid (HNo.out k hlt)
      have HS : Hid ((0 ≤ F k ∧ F k ≤ 1000) → ∀ j, j < k + 1 → 0 ≤ F j ∧ F j ≤ 1000) := Lib.hid (fun h j hj => by
        rcases Nat.lt_or_ge j k with h1 | h1
        · exact HA.out j h1
        · obtain rfl : k = j := by omega
          exact h)
      generalize F k = x at *
      by_cases h1 : x < 0
      · have HZ := Lib.hid (HN.out (by omega))
        have d := decide_eq_true h1
        go_wp2
        go_ret
        exact ⟨ret_bool HZ.out.symm, rfl⟩
      · have h1' : 0 ≤ x := by omega
        by_cases h2 : 1000 < x
        · have HZ := Lib.hid (HN.out (by omega))
          have d := decide_eq_true h2
          go_wp2
          go_ret
          exact ⟨ret_bool HZ.out.symm, rfl⟩
        · have h2' : x ≤ 1000 := by omega
          have HZ := Lib.hid (HS.out ⟨h1', h2'⟩)
          go_wp2
          go_roundw
          case rel => exact ⟨k + 1, by omega, by go_num, HZ.out, trivial⟩
          case measure => simp [intOf]; omega
    · obtain rfl : n = k := by omega
      have HY := Lib.hid (HYes.out HA.out)
      by_cases h1 : 1 ≤ n
      · by_cases h4 : n ≤ 4
        · have HZ : Hid (okL n F = true) := Lib.hid (by rw [HY.out, decide_eq_true ⟨h1, h4⟩])
          have h1i : (1 : Int) ≤ n := by omega
          have h4i : (n : Int) ≤ 4 := by omega
          go_wp2
          go_ret
          exact ⟨ret_bool HZ.out.symm, rfl⟩
        · have HZ : Hid (okL n F = false) := Lib.hid (by rw [HY.out]; exact decide_eq_false (by omega))
          have h1i : (1 : Int) ≤ n := by omega
          have h4i : ¬ (n : Int) ≤ 4 := by omega
          have d4 := decide_eq_false h4i
          go_wp2
          go_ret
          exact ⟨ret_bool HZ.out.symm, rfl⟩
      · have HZ : Hid (okL n F = false) := Lib.hid (by rw [HY.out]; exact decide_eq_false (by omega))
        have h1i : ¬ (1 : Int) ≤ n := by omega
        have d1 := decide_eq_false h1i
        go_wp2
        go_ret
        exact ⟨ret_bool HZ.out.symm, rfl⟩
set_option maxHeartbeats 1000000 in
set_option maxRecDepth 1000000 in
theorem refRoad_any (A : Option Addr) (n c : Nat) (F : Nat → Int) (w : World) (h : Ints w A n F) (hok : okL n F = true) :
    Calls Tryd.prog 42 #[.slice A n c] w fun e w' => ∃ v, e = .returned v ∧ OwnL w' w.heap.size v (lst (2 ^ n) (fun s => mxS F s n)) ∧ Below w.heap.size w w' := by
  obtain ⟨⟨hn1, hn4⟩, hF⟩ := okL_iff.1 hok
  have HI := Lib.hid h
  have HBd := Lib.hid (fun s => mxS_bd hF s)
  have HF := Lib.hid hF
  have HS : Hid (∀ s p, mxS F s (p + 1) = if inS s p = true then (if mxS F s p < F p then F p else mxS F s p) else mxS F s p) := Lib.hid (fun _ _ => rfl)
  have H0 : Hid (∀ s, mxS F s 0 = 0) := Lib.hid (fun _ => rfl)
  have HsE : Hid (∀ s, lst (s + 1) (fun s => mxS F s n) = lst s (fun s => mxS F s n) ++ lst 1 (fun _ => mxS F s n)) := Lib.hid (fun s => by rw [lst_succ]; simp [lst])
  have HBit : Hid (∀ s x : Nat, bits .and .i64 ((s : Int) / 2 ^ x) 1 = ((s / 2 ^ x % 2 : Nat) : Int)) := Lib.hid (fun s x => by
    have e : ((s : Int) / 2 ^ x) = ((s / 2 ^ x : Nat) : Int) := by push_cast; rfl
    rw [e, i64_and1]
    omega)
  obtain ⟨hs1, hs2, hm16⟩ := shl_n n hn4
  generalize 2 ^ n = m at *
  clear h hok hF
  go_enter Tryd.func42, Tryd.ntmps42
  go_wp2_with fail
  clear hs1 hs2
  go_loopw [3, 11] (fun v i wr => ∃ s : Nat, s ≤ m ∧ i = .int .i64 s ∧ OwnL wr w.heap.size v (lst s (fun s => mxS F s n)) ∧ Below w.heap.size w wr) (fun _ i _ => m - (intOf i).toNat)
  case atStart => exact ⟨0, Nat.zero_le _, rfl, OwnL.nil_ _ _, Below.refl _ _⟩
  case round =>
    obtain ⟨s, hs, rfl, hO, hD⟩ := hrel
    have HO := Lib.hid hO
    have HD := Lib.hid hD
    have hsb := hD.size
    clear hO hD
    by_cases hsl : s < m
    · have HSs := Lib.hid (HsE.out s)
      obtain ⟨V, rfl⟩ : ∃ V, V = wr := ⟨wr, rfl⟩
      go_wp2_with fail
      go_loopw [5, 16] (fun x i wi => ∃ p : Nat, p ≤ n ∧ i = .int .i64 p ∧ x = .int .i64 (mxS F s p) ∧ wi = V) (fun _ i _ => n - (intOf i).toNat)
      case atStart => exact ⟨0, Nat.zero_le _, rfl, by rw [H0.out], rfl⟩
      case round =>
        obtain ⟨p, hp, rfl, rfl, rfl⟩ := hrel
        by_cases hpl : p < n
        · obtain ⟨b, o, rfl, c0⟩ := (HI.out.keep HD.out).at hpl
          have b0 := HF.out p hpl
          have b1 := HBd.out s p (by omega)
          have HSp := Lib.hid (HS.out s p)
          have hh := HBit.out s p
          have HU : Hid (inS s p = decide (s / 2 ^ p % 2 = 1)) := Lib.hid rfl
          have hp64 : (p : Int) < 64 := by omega
          have hm2 : s / 2 ^ p % 2 = 0 ∨ s / 2 ^ p % 2 = 1 := by omega
          rcases hm2 with hm2 | hm2
          · have hq : (((s / 2 ^ p % 2 : Nat) : Int) == 1) = false := by rw [hm2]; rfl
            have HZ : Hid (mxS F s (p + 1) = mxS F s p) := Lib.hid (by rw [HSp.out, HU.out, hm2]; rfl)
            clear hm2
            generalize s / 2 ^ p % 2 = z at *
            generalize mxS F s p = X at *
            go_wp2
            go_roundw
            case rel => exact ⟨p + 1, by omega, by go_num, by rw [HZ.out], trivial⟩
            case measure => simp [intOf]; omega
          · have hq : (((s / 2 ^ p % 2 : Nat) : Int) == 1) = true := by rw [hm2]; rfl
            have HZ : Hid (mxS F s (p + 1) = if mxS F s p < F p then F p else mxS F s p) := Lib.hid (by rw [HSp.out, HU.out, hm2]; rfl)
            clear hm2
            generalize s / 2 ^ p % 2 = z at *
            generalize F p = x at *
            generalize mxS F s p = X at *
            obtain ⟨b00, b01⟩ := b0
            obtain ⟨b10, b11⟩ := b1
            by_cases hlt : X < x
            · have HQ : Hid (mxS F s (p + 1) = x) := Lib.hid (by rw [HZ.out, if_pos hlt])
              go_wp2
              go_roundw
              case rel => exact ⟨p + 1, by omega, by go_num, by rw [HQ.out], trivial⟩
              case measure => simp [intOf]; omega
            · have HQ : Hid (mxS F s (p + 1) = X) := Lib.hid (by rw [HZ.out, if_neg hlt])
              go_wp2
              go_roundw
              case rel => exact ⟨p + 1, by omega, by go_num, by rw [HQ.out], trivial⟩
              case measure => simp [intOf]; omega
        · obtain rfl : n = p := by omega
          generalize mxS F s n = x at *
          obtain ⟨S0, hS0⟩ : ∃ S0, S0 = lst s (fun s => mxS F s n) := ⟨_, rfl⟩
          have hS0l : S0.length = s := by rw [hS0, lst_len]
          rw [← hS0] at HO HSs
          clear hS0
          go_wp2_with (at_builtin; go_loud (refine wpList_append_ints rfl (.tmp 30) (.tmp 32) rfl w.heap.size u3 S0 rfl (World.ownsRow.alloc HO.out _) (some ⟨wr.heap.size, 0, none⟩) 1 1 (fun _ => x) rfl (row1 rfl _).ints (by omega) (by simp; omega) ?_))
          intro v5 w5 hv5 hg5 _
          have hb5 : Below w.heap.size w w5 := (HD.out.alloc hsb _).grown hg5 (by simp; omega) (fun g hg => (World.ownsRow.lt HO.out g hg).1)
          have HV5 := Lib.hid hv5
          have HB5 := Lib.hid hb5
          clear hv5 hg5 hb5
          go_wp2
          go_roundw
          case rel => exact ⟨s + 1, by omega, by go_num, by rw [HSs.out]; exact HV5.out, HB5.out⟩
          case measure => simp [intOf]; omega
    · obtain rfl : m = s := by omega
      go_wp2
      go_ret
      exact ⟨_, rfl, HO.out, HD.out⟩
end Go.Proofs.YtoeimngbpagegaaDoor
