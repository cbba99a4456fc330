import Derived.Test.YtkgikehagkpmoaaRd3
namespace Go.Proofs.Ytkgikehagkpmoaa
open Go.RowKit

/-- The first of the goods left that are worth most, of the first k; -1: none is left. -/
def favF (f D : Nat → Int) : Nat → Int
  | 0 => -1
  | k + 1 => if D k = -1 ∧ (favF f D k = -1 ∨ f (favF f D k).toNat < f k) then (k : Int) else favF f D k

set_option maxHeartbeats 1000000 in
set_option maxRecDepth 1000000 in
theorem favx_any (A Dd : Option Addr) (m c c' : Nat) (f D : Nat → Int) (w : World) (h : Ints w A m f) (hd : Ints w Dd m D) (hm : m ≤ 9) :
    Calls Try.prog 39 #[.slice A m c, .slice Dd m c'] w fun e w' => ∃ x : Int, e = .returned (.int .i64 x) ∧ FavI f D m x ∧ x = favF f D m ∧ Dn w w' := by
  have H := Lib.hid h
  have HD := Lib.hid hd
  clear h hd
  go_enter Try.func39, Try.ntmps39
  go_wp2
  go_loopw [5, 10] (fun s x wr => ∃ (k : Nat) (y : Int), k ≤ m ∧ x = .int .i64 k ∧ s = .int .i64 y ∧ FavI f D k y ∧ y = favF f D k ∧ Dn w wr) (fun _ x _ => m - (intOf x).toNat)
  case atStart => exact ⟨0, -1, Nat.zero_le _, rfl, rfl, .inl ⟨rfl, fun h hh => absurd hh (by omega)⟩, rfl, Dn.refl _⟩
  case round =>
    obtain ⟨k, y, hk, rfl, rfl, hI, hy, hD⟩ := hrel
    have HY := Lib.hid hy
    clear hy
    by_cases hlt : k < m
    · obtain ⟨b, o, rfl, hc⟩ := (HD.out.dn hD).at hlt
      obtain ⟨b', o', rfl, hc'⟩ := (H.out.dn hD).at hlt
      have HI := Lib.hid hI
      clear hI
      have hk0 : (0 : Int) ≤ k := by omega
      have hkm : (k : Int) < m := by omega
      by_cases e1 : D k = -1
      · have HE1 := Lib.hid e1
        rw [e1] at hc
        clear e1
        rcases HI.out with ⟨rfl, hno⟩ | ⟨b2, hb2, rfl, hDb, hbest⟩
        · have HN : Hid (FavI f D (k + 1) (k : Int)) := Lib.hid (.inr ⟨k, by omega, rfl, HE1.out, fun h hh he => by
            rcases Nat.lt_or_ge h k with hl | hl
            · exact absurd he (hno h hl)
            · obtain rfl : h = k := by omega
              exact Int.le_refl _⟩)
          have HX : Hid ((k : Int) = favF f D (k + 1)) := Lib.hid (by
            simp only [favF]
            rw [if_pos ⟨HE1.out, .inl HY.out.symm⟩])
          clear hno HI
          go_wp2_with fail
          go_quiet (fail)
          go_wp2
          go_roundw
          case rel => exact ⟨k + 1, _, by omega, by go_num, rfl, HN.out, HX.out, hD.drewN _⟩
          case measure => simp [intOf]; omega
        · have hcb := (H.out.dn hD).cell (show b2 < m by omega)
          have hb0 : (0 : Int) ≤ (b2 : Int) := by omega
          have hbm : (b2 : Int) < m := by omega
          have hbn := beq_f (a := (b2 : Int)) (b := -1) (by omega)
          by_cases hgt : f b2 < f k
          · have HN : Hid (FavI f D (k + 1) (k : Int)) := Lib.hid (.inr ⟨k, by omega, rfl, HE1.out, fun h hh he => by
              rcases Nat.lt_or_ge h k with hl | hl
              · have := hbest h hl he
                omega
              · obtain rfl : h = k := by omega
                exact Int.le_refl _⟩)
            have HX : Hid ((k : Int) = favF f D (k + 1)) := Lib.hid (by
              simp only [favF]
              rw [if_pos ⟨HE1.out, .inr (by rw [← HY.out, Int.toNat_natCast]; exact hgt)⟩])
            clear hbest hDb HI
            go_wp2_with fail
            go_quiet (fail)
            go_wp2
            go_roundw
            case rel => exact ⟨k + 1, _, by omega, by go_num, rfl, HN.out, HX.out, hD.drewN _⟩
            case measure => simp [intOf]; omega
          · have HN : Hid (FavI f D (k + 1) (b2 : Int)) := Lib.hid (.inr ⟨b2, by omega, rfl, hDb, fun h hh he => by
              rcases Nat.lt_or_ge h k with hl | hl
              · exact hbest h hl he
              · obtain rfl : h = k := by omega
                omega⟩)
            have HX : Hid ((b2 : Int) = favF f D (k + 1)) := Lib.hid (by
              simp only [favF]
              rw [if_neg (fun h => by
                rcases h.2 with h2 | h2
                · rw [← HY.out] at h2; omega
                · rw [← HY.out, Int.toNat_natCast] at h2; exact hgt h2)]
              exact HY.out)
            clear hbest hDb HI
            go_wp2_with fail
            go_quiet (fail)
            go_wp2
            go_roundw
            case rel => exact ⟨k + 1, _, by omega, by go_num, rfl, HN.out, HX.out, hD.drewN _⟩
            case measure => simp [intOf]; omega
      · have hB := beq_f e1
        have HN : Hid (FavI f D (k + 1) y) := Lib.hid (by
          rcases HI.out with ⟨rfl, hno⟩ | ⟨b2, hb2, rfl, hDb, hbest⟩
          · exact .inl ⟨rfl, fun h hh => by
              rcases Nat.lt_or_ge h k with hl | hl
              · exact hno h hl
              · obtain rfl : h = k := by omega
                exact e1⟩
          · exact .inr ⟨b2, by omega, rfl, hDb, fun h hh he => by
              rcases Nat.lt_or_ge h k with hl | hl
              · exact hbest h hl he
              · obtain rfl : h = k := by omega
                exact absurd he e1⟩)
        have HX : Hid (y = favF f D (k + 1)) := Lib.hid (by
          simp only [favF]
          rw [if_neg (fun h => e1 h.1)]
          exact HY.out)
        clear e1 HI
        go_wp2_with fail
        go_quiet (fail)
        go_wp2
        go_roundw
        case rel => exact ⟨k + 1, _, by omega, by go_num, rfl, HN.out, HX.out, hD.drewN _⟩
        case measure => simp [intOf]; omega
    · obtain rfl : m = k := by omega
      have HI := Lib.hid hI
      clear hI
      go_wp2
      go_ret
      exact ⟨y, rfl, HI.out, HY.out, hD⟩
end Go.Proofs.Ytkgikehagkpmoaa
