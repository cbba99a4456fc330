/- Lengths; Road, the program's. -/
import Derived.Test.YtoeimngbpagegaaDoorGg
namespace Go.Proofs.YtoeimngbpagegaaDoor
open Go.RowKit

/-- F is lengths. -/
def okL (n : Nat) (F : Nat → Int) : Bool := decide (1 ≤ n ∧ n ≤ 4) && csB F n
theorem okL_iff {n : Nat} {F : Nat → Int} : okL n F = true ↔ (1 ≤ n ∧ n ≤ 4) ∧ ∀ k, k < n → 0 ≤ F k ∧ F k ≤ 1000 := by
  unfold okL
  rw [Bool.and_eq_true, decide_eq_true_iff, csB_iff]
theorem areLengths_any (A : Option Addr) (n c : Nat) (F : Nat → Int) (w : World) (h : Ints w A n F) (hn : n ≤ maxLen) :
    Calls Tryd.prog 74 #[.slice A n c] w fun e w' => e = .returned (.bool (okL n F)) ∧ w = w' := by
  have HC := Lib.hid (areCosts_any A n c F w h hn)
  have HW := Lib.hid (within_any (n : Int) 1 4 w)
  have HE : Hid (okL n F = (wtB (n : Int) 1 4 && csB F n)) := Lib.hid (by
    unfold okL wtB
    congr 1
    rw [← Bool.decide_and]
    exact decide_eq_decide.2 (by omega))
  have hm : n ≤ 9223372036854775807 := by unfold maxLen at hn; omega
  clear h hn
  go_enter Tryd.func74, Tryd.ntmps74
  go_wp2_with fail
  refine HW.out.mono ?_
  rintro e w' ⟨rfl, rfl⟩
  cases hw : wtB (n : Int) 1 4 with
  | false =>
    have HZ : Hid (okL n F = false) := Lib.hid (by rw [HE.out, hw]; rfl)
    clear hw
    go_wp2
    go_ret
    exact ⟨ret_bool HZ.out.symm, rfl⟩
  | true =>
    have HZ : Hid (okL n F = csB F n) := Lib.hid (by rw [HE.out, hw]; rfl)
    clear hw
    go_wp2_with fail
    refine HC.out.mono ?_
    rintro e w' ⟨rfl, rfl⟩
    go_wp2
    go_ret
    exact ⟨ret_bool HZ.out.symm, rfl⟩
/-- The greatest length of the set's, among the first t players. -/
def mxS (F : Nat → Int) (s : Nat) : Nat → Int
  | 0 => 0
  | p + 1 => if inS s p = true then (if mxS F s p < F p then F p else mxS F s p) else mxS F s p
theorem mxS_bd {F : Nat → Int} {n : Nat} (h : ∀ k, k < n → 0 ≤ F k ∧ F k ≤ 1000) (s : Nat) : ∀ p, p ≤ n → 0 ≤ mxS F s p ∧ mxS F s p ≤ 1000 := by
  intro p
  induction p with
  | zero => intro _; simp [mxS]
  | succ p ih =>
    intro hp
    have h1 := ih (by omega)
    have h2 := h p (by omega)
    unfold mxS
    split
    · split <;> omega
    · exact h1
theorem shl_n : ∀ k : Nat, k ≤ 4 → wrap64 (2 ^ k) = ((2 ^ k : Nat) : Int) ∧ IntKind.i64.wrap (2 ^ k) = ((2 ^ k : Nat) : Int) ∧ 2 ^ k ≤ 16 := by decide +kernel
theorem road_bad (A : Option Addr) (n c : Nat) (F : Nat → Int) (w : World) (h : Ints w A n F) (hn : n ≤ maxLen) (hok : okL n F = false) :
    Calls Tryd.prog 39 #[.slice A n c] w fun e w' => e = .returned (.tuple #[.slice none 0 0, .int .i64 2]) ∧ w = w' := by
  have H := Lib.hid (areLengths_any A n c F w h hn)
  rw [hok] at H
  clear h hn hok
  go_enter Tryd.func39, Tryd.ntmps39
  go_wp2_with fail
  refine H.out.mono ?_
  rintro e w' ⟨rfl, rfl⟩
  go_wp2
  go_returns
  exact ⟨rfl, rfl⟩
theorem serial_bad (A : Option Addr) (n c : Nat) (F : Nat → Int) (w : World) (h : Ints w A n F) (hn : n ≤ maxLen) (hok : okL n F = false) :
    Calls Tryd.prog 40 #[.slice A n c] w fun e w' => e = .returned (.tuple #[.slice none 0 0, .int .i64 2]) ∧ w = w' := by
  have H := Lib.hid (areLengths_any A n c F w h hn)
  rw [hok] at H
  clear h hn hok
  go_enter Tryd.func40, Tryd.ntmps40
  go_wp2_with fail
  refine H.out.mono ?_
  rintro e w' ⟨rfl, rfl⟩
  go_wp2
  go_returns
  exact ⟨rfl, rfl⟩
set_option maxHeartbeats 1000000 in
set_option maxRecDepth 1000000 in
theorem road_ok (A : Option Addr) (n c : Nat) (F : Nat → Int) (w : World) (h : Ints w A n F) (hok : okL n F = true) :
    Calls Tryd.prog 39 #[.slice A n c] w fun e w' => e = .returned (.tuple #[.slice (some ⟨w.heap.size, 0, none⟩) (2 ^ n) (2 ^ n), .int .i64 0]) ∧ RowI w' w.heap.size (2 ^ n) (fun s => mxS F s n) ∧ Below w.heap.size w w' := by
  obtain ⟨⟨hn1, hn4⟩, hF⟩ := okL_iff.1 hok
  have HI := Lib.hid h
  have HL := Lib.hid (areLengths_any A n c F w h (by unfold maxLen; omega))
  rw [hok] at HL
  have HBd := Lib.hid (fun s => mxS_bd hF s)
  have HF := Lib.hid hF
  have HS : Hid (∀ s p, mxS F s (p + 1) = if inS s p = true then (if mxS F s p < F p then F p else mxS F s p) else mxS F s p) := Lib.hid (fun _ _ => rfl)
  have H0 : Hid (∀ s, mxS F s 0 = 0) := Lib.hid (fun _ => rfl)
  obtain ⟨hs1, hs2, hm16⟩ := shl_n n hn4
  generalize 2 ^ n = m at *
  clear h hok hF
  go_enter Tryd.func39, Tryd.ntmps39
  go_wp2_with fail
  refine HL.out.mono ?_
  rintro e w' ⟨rfl, rfl⟩
  have hmk := mk_ints m (by omega) w
  have HM := Lib.hid (RowI.made w m)
  have HB := Lib.hid ((Below.refl w.heap.size w).alloc (Nat.le_refl _) (.cells (madeCells #[.int .i64 0] m) 3))
  go_wp2_with fail
  clear hmk hs1 hs2
  generalize w.alloc (.cells (madeCells #[.int .i64 0] m) 3) = W1 at *
  go_loopw [17] (fun i wr => ∃ s : Nat, s ≤ m ∧ i = .int .i64 s ∧ RowI wr w.heap.size m (fun q => if q < s then mxS F q n else 0) ∧ Below w.heap.size w wr) (fun i _ => m - (intOf i).toNat)
  case atStart => exact ⟨0, Nat.zero_le _, rfl, HM.out.congr (fun q _ => by rw [if_neg (by omega)]), HB.out⟩
  case round =>
    obtain ⟨s, hs, rfl, hR, hD⟩ := hrel
    have HR := Lib.hid hR
    have HD := Lib.hid hD
    clear hR hD
    by_cases hsl : s < m
    · go_wp2_with fail
      go_loopw [22] (fun i wi => ∃ p : Nat, p ≤ n ∧ i = .int .i64 p ∧ RowI wi w.heap.size m (fun q => if q < s then mxS F q n else if q = s then mxS F s p else 0) ∧ Below w.heap.size w wi) (fun i _ => n - (intOf i).toNat)
      case atStart => exact ⟨0, Nat.zero_le _, rfl, HR.out.congr (fun q _ => by
        by_cases h1 : q < s
        · simp only [if_pos h1]
        · by_cases h2 : q = s
          · simp only [if_neg h1, if_pos h2, H0.out]
          · simp only [if_neg h1, if_neg h2]), HD.out⟩
      case round =>
        obtain ⟨p, hp, rfl, hR2, hE⟩ := hrel
        have HR2 := Lib.hid hR2
        have HE := Lib.hid hE
        clear hR2 hE
        by_cases hpl : p < n
        · obtain ⟨b, o, rfl, c0⟩ := (HI.out.keep HE.out).at hpl
          have c1 := HR2.out.cell hsl
          have f1 := HR2.out.frozen s
          rw [if_neg (Nat.lt_irrefl s), if_pos rfl] at c1
          have b0 := HF.out p hpl
          have b1 := HBd.out s p (by omega)
          have HSp := Lib.hid (HS.out s p)
          have HUp : Hid (∀ z, mxS F s (p + 1) = z → ∀ q, q < m → upd (fun q => if q < s then mxS F q n else if q = s then mxS F s p else 0) s z q = if q < s then mxS F q n else if q = s then mxS F s (p + 1) else 0) := Lib.hid (fun z hz q _ => by
            unfold upd
            by_cases h2 : q = s
            · subst h2
              simp only [if_true, if_neg (Nat.lt_irrefl q), hz]
            · simp only [if_neg h2])
          have HSet := Lib.hid (fun z => HR2.out.set s z)
          cases hin : inS s p with
          | false =>
            have HZ : Hid (mxS F s (p + 1) = mxS F s p) := Lib.hid (by rw [HSp.out, hin]; rfl)
            have HR3 : Hid (RowI wr w.heap.size m (fun q => if q < s then mxS F q n else if q = s then mxS F s (p + 1) else 0)) := Lib.hid (HR2.out.congr (fun q _ => by rw [HZ.out]))
            have HH := Lib.hid (has_any s p (by omega) wr)
            rw [hin] at HH
            clear hin c1 f1 b0 b1
            go_wp2_with fail
            refine HH.out.mono ?_
            rintro e w' ⟨rfl, rfl⟩
            go_wp2
            go_roundw
            case rel => exact ⟨p + 1, by omega, by go_num, HR3.out, HE.out⟩
            case measure => simp [intOf]; omega
          | true =>
            have HH := Lib.hid (has_any s p (by omega) wr)
            rw [hin] at HH
            have HZ : Hid (mxS F s (p + 1) = if mxS F s p < F p then F p else mxS F s p) := Lib.hid (by rw [HSp.out, hin]; rfl)
            clear hin
            generalize F p = x at *
            generalize hX : mxS F s p = X at *
            obtain ⟨b00, b01⟩ := b0
            obtain ⟨b10, b11⟩ := b1
            by_cases hlt : X < x
            · have HQ := Lib.hid (HUp.out x (by rw [HZ.out, if_pos hlt]))
              go_wp2_with fail
              refine HH.out.mono ?_
              rintro e w' ⟨rfl, rfl⟩
              go_wp2
              go_roundw
              case rel => exact ⟨p + 1, by omega, by go_num, (HSet.out x).congr HQ.out, HE.out.setCell (p := ⟨w.heap.size, s, none⟩) (Nat.le_refl _) _⟩
              case measure => simp [intOf]; omega
            · have HQ := Lib.hid (HUp.out X (by rw [HZ.out, if_neg hlt]))
              go_wp2_with fail
              refine HH.out.mono ?_
              rintro e w' ⟨rfl, rfl⟩
              go_wp2
              go_roundw
              case rel => exact ⟨p + 1, by omega, by go_num, (HSet.out X).congr HQ.out, HE.out.setCell (p := ⟨w.heap.size, s, none⟩) (Nat.le_refl _) _⟩
              case measure => simp [intOf]; omega
        · obtain rfl : n = p := by omega
          have HR3 : Hid (RowI wr w.heap.size m (fun q => if q < s + 1 then mxS F q n else 0)) := Lib.hid (HR2.out.congr (fun q _ => by
            by_cases h1 : q < s
            · simp only [if_pos h1, if_pos (show q < s + 1 by omega)]
            · by_cases h2 : q = s
              · subst h2
                simp only [if_neg h1, if_true, if_pos (show q < q + 1 by omega)]
              · simp only [if_neg h1, if_neg h2, if_neg (show ¬ q < s + 1 by omega)]))
          go_wp2
          go_roundw
          case rel => exact ⟨s + 1, by omega, by go_num, HR3.out, HE.out⟩
          case measure => simp [intOf]; omega
    · obtain rfl : m = s := by omega
      have HR3 : Hid (RowI wr w.heap.size m (fun q => mxS F q n)) := Lib.hid (HR.out.congr (fun q hq => by rw [if_pos hq]))
      go_wp2
      go_returns
      exact ⟨rfl, HR3.out, HD.out⟩
end Go.Proofs.YtoeimngbpagegaaDoor
