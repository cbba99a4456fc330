import Derived.Test.YtkgikehagkpmoaaCy7
namespace Go.Proofs.Ytkgikehagkpmoaa
open Go.RowKit

/-- b is a good that is left, of the first k, and none of these is worth more. -/
def FavI (f D : Nat → Int) (k : Nat) (x : Int) : Prop := (x = -1 ∧ ∀ h, h < k → D h ≠ -1) ∨ ∃ b : Nat, b < k ∧ x = (b : Int) ∧ D b = -1 ∧ ∀ h, h < k → D h = -1 → f h ≤ f b

set_option maxHeartbeats 1000000 in
set_option maxRecDepth 1000000 in
theorem favourite_any (A Dd : Option Addr) (m c c' : Nat) (f D : Nat → Int) (w : World) (h : Ints w A m f) (hd : Ints w Dd m D) (hm : m ≤ 9) :
    Calls Try.prog 39 #[.slice A m c, .slice Dd m c'] w fun e w' => ∃ x : Int, e = .returned (.int .i64 x) ∧ FavI f D m x ∧ Dn w w' := by
  have H := Lib.hid h
  have HD := Lib.hid hd
  clear h hd
  go_enter Try.func39, Try.ntmps39
  go_wp2
  go_loopw [5, 10] (fun s x wr => ∃ (k : Nat) (y : Int), k ≤ m ∧ x = .int .i64 k ∧ s = .int .i64 y ∧ FavI f D k y ∧ Dn w wr) (fun _ x _ => m - (intOf x).toNat)
  case atStart => exact ⟨0, -1, Nat.zero_le _, rfl, rfl, .inl ⟨rfl, fun h hh => absurd hh (by omega)⟩, Dn.refl _⟩
  case round =>
    obtain ⟨k, y, hk, rfl, rfl, hI, hD⟩ := hrel
    by_cases hlt : k < m
    · obtain ⟨b, o, rfl, hc⟩ := (HD.out.dn hD).at hlt
      obtain ⟨b', o', rfl, hc'⟩ := (H.out.dn hD).at hlt
      have HI := Lib.hid hI
      clear hI
      have hk0 : (0 : Int) ≤ k := by omega
      have hkm : (k : Int) < m := by omega
      by_cases e1 : D k = -1
      · have HE1 := Lib.hid e1
        rw [e1] at hc
        clear e1
        rcases HI.out with ⟨rfl, hno⟩ | ⟨b2, hb2, rfl, hDb, hbest⟩
        · have HN : Hid (FavI f D (k + 1) (k : Int)) := Lib.hid (.inr ⟨k, by omega, rfl, HE1.out, fun h hh he => by
            rcases Nat.lt_or_ge h k with hl | hl
            · exact absurd he (hno h hl)
            · obtain rfl : h = k := by omega
              exact Int.le_refl _⟩)
          clear hno HI
          go_wp2_with fail
          go_quiet (fail)
          go_wp2
          go_roundw
          case rel => exact ⟨k + 1, _, by omega, by go_num, rfl, HN.out, hD.drewN _⟩
          case measure => simp [intOf]; omega
        · have hcb := (H.out.dn hD).cell (show b2 < m by omega)
          have hb0 : (0 : Int) ≤ (b2 : Int) := by omega
          have hbm : (b2 : Int) < m := by omega
          have hbn := beq_f (a := (b2 : Int)) (b := -1) (by omega)
          by_cases hgt : f b2 < f k
          · have HN : Hid (FavI f D (k + 1) (k : Int)) := Lib.hid (.inr ⟨k, by omega, rfl, HE1.out, fun h hh he => by
              rcases Nat.lt_or_ge h k with hl | hl
              · have := hbest h hl he
                omega
              · obtain rfl : h = k := by omega
                exact Int.le_refl _⟩)
            clear hbest hDb HI
            go_wp2_with fail
            go_quiet (fail)
            go_wp2
            go_roundw
            case rel => exact ⟨k + 1, _, by omega, by go_num, rfl, HN.out, hD.drewN _⟩
            case measure => simp [intOf]; omega
          · have HN : Hid (FavI f D (k + 1) (b2 : Int)) := Lib.hid (.inr ⟨b2, by omega, rfl, hDb, fun h hh he => by
              rcases Nat.lt_or_ge h k with hl | hl
              · exact hbest h hl he
              · obtain rfl : h = k := by omega
                omega⟩)
            clear hbest hDb HI
            go_wp2_with fail
            go_quiet (fail)
            go_wp2
            go_roundw
            case rel => exact ⟨k + 1, _, by omega, by go_num, rfl, HN.out, hD.drewN _⟩
            case measure => simp [intOf]; omega
      · have hB := beq_f e1
        have HN : Hid (FavI f D (k + 1) y) := Lib.hid (by
          rcases HI.out with ⟨rfl, hno⟩ | ⟨b2, hb2, rfl, hDb, hbest⟩
          · exact .inl ⟨rfl, fun h hh => by
              rcases Nat.lt_or_ge h k with hl | hl
              · exact hno h hl
              · obtain rfl : h = k := by omega
                exact e1⟩
          · exact .inr ⟨b2, by omega, rfl, hDb, fun h hh he => by
              rcases Nat.lt_or_ge h k with hl | hl
              · exact hbest h hl he
              · obtain rfl : h = k := by omega
                exact absurd he e1⟩)
        clear e1 HI
        go_wp2_with fail
        go_quiet (fail)
        go_wp2
        go_roundw
        case rel => exact ⟨k + 1, _, by omega, by go_num, rfl, HN.out, hD.drewN _⟩
        case measure => simp [intOf]; omega
    · obtain rfl : m = k := by omega
      have HI := Lib.hid hI
      clear hI
      go_wp2
      go_ret
      exact ⟨y, rfl, HI.out, hD⟩
end Go.Proofs.Ytkgikehagkpmoaa
