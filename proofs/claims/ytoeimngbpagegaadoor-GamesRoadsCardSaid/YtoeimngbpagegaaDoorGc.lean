/- games: within, has, everyone, players (by the table of math/bits), areCosts, valid. -/
import Derived.Test.YtoeimngbpagegaaDoorQa
import Derived.Test.YtoeimngbpagegaaDoorBool
import Derived.Test.YtoeimngbpagegaaDoorGa
import Derived.Test.YtoeimngbpagegaaDoorShift
import Derived.BigRegion
namespace Go.Proofs.YtoeimngbpagegaaDoor
open Go.RowKit

/-- What is read of the table by which math/bits finds the last bit of small numbers. -/
def Tab (w : World) : Prop := w.cell? ⟨1, 0, none⟩ = some (.int .u8 0) ∧ w.cell? ⟨1, 1, none⟩ = some (.int .u8 1) ∧ w.cell? ⟨1, 3, none⟩ = some (.int .u8 2) ∧ w.cell? ⟨1, 7, none⟩ = some (.int .u8 3) ∧ w.cell? ⟨1, 15, none⟩ = some (.int .u8 4)
theorem Tab.keep {w w' : World} (h : Tab w) (hb : Below w.heap.size w w') : Tab w' := by
  obtain ⟨h0, h1, h2, h3, h4⟩ := h
  have k : ∀ {p : Addr} {x : Value}, w.cell? p = some x → w'.cell? p = some x := fun hc => (hb.cell (World.block_lt_of_cell? _ _ hc)).trans hc
  exact ⟨k h0, k h1, k h2, k h3, k h4⟩

def wtB (x a b : Int) : Bool := decide (a ≤ x) && decide (x ≤ b)
theorem wtB_iff {x a b : Int} : wtB x a b = true ↔ a ≤ x ∧ x ≤ b := by simp [wtB]
theorem within_any (x a b : Int) (w : World) : Calls Tryd.prog 79 #[.int .i64 x, .int .i64 a, .int .i64 b] w fun e w' => e = .returned (.bool (wtB x a b)) ∧ w = w' := by
  have e : wtB x a b = (decide (a ≤ x) && decide (x ≤ b)) := rfl
  by_cases h1 : a ≤ x
  · by_cases h2 : x ≤ b
    · have E := Lib.hid (show wtB x a b = true by rw [e, decide_eq_true h1, decide_eq_true h2]; rfl)
      clear e
      go_enter Tryd.func79, Tryd.ntmps79
      go_wp2
      go_ret
      exact ⟨ret_bool E.out.symm, rfl⟩
    · have E := Lib.hid (show wtB x a b = false by rw [e, decide_eq_true h1, decide_eq_false h2]; rfl)
      clear e
      go_enter Tryd.func79, Tryd.ntmps79
      go_wp2
      go_ret
      exact ⟨ret_bool E.out.symm, rfl⟩
  · have E := Lib.hid (show wtB x a b = false by rw [e, decide_eq_false h1]; rfl)
    clear e
    go_enter Tryd.func79, Tryd.ntmps79
    go_wp2
    go_ret
    exact ⟨ret_bool E.out.symm, rfl⟩

/-- Player i is in set s. -/
def inS (s i : Nat) : Bool := decide (s / 2 ^ i % 2 = 1)
theorem has_any (s x : Nat) (hx : x < 64) (w : World) : Calls Tryd.prog 69 #[.int .i64 s, .int .i64 x] w fun e w' => e = .returned (.bool (inS s x)) ∧ w = w' := by
  have h2 : bits .and .i64 ((s : Int) / 2 ^ x) 1 = ((s / 2 ^ x % 2 : Nat) : Int) := by
    have e : ((s : Int) / 2 ^ x) = ((s / 2 ^ x : Nat) : Int) := by push_cast; rfl
    rw [e, i64_and1]
    omega
  have HU : Hid (inS s x = decide (s / 2 ^ x % 2 = 1)) := Lib.hid rfl
  generalize s / 2 ^ x = y at *
  rcases Nat.mod_two_eq_zero_or_one y with h | h
  · have hq : (((y % 2 : Nat) : Int) == 1) = false := by rw [h]; rfl
    have HV : Hid (inS s x = false) := Lib.hid (by rw [HU.out, h]; rfl)
    clear h
    go_enter Tryd.func69, Tryd.ntmps69
    go_wp2
    go_ret
    exact ⟨ret_bool (by rw [HV.out]; first | rfl | exact hq | (rw [h2]; exact hq)), rfl⟩
  · have hq : (((y % 2 : Nat) : Int) == 1) = true := by rw [h]; rfl
    have HV : Hid (inS s x = true) := Lib.hid (by rw [HU.out, h]; rfl)
    clear h
    go_enter Tryd.func69, Tryd.ntmps69
    go_wp2
    go_ret
    exact ⟨ret_bool (by rw [HV.out]; first | rfl | exact hq | (rw [h2]; exact hq)), rfl⟩

theorem everyone_any (A : Option Addr) (n c : Nat) (hn : 0 < n) (hm : n ≤ 100) (w : World) : Calls Tryd.prog 60 #[.slice A n c] w fun e w' => e = .returned (.int .i64 ((n - 1 : Nat) : Int)) ∧ w = w' := by
  obtain ⟨m, rfl⟩ : ∃ m, n = m + 1 := ⟨n - 1, by omega⟩
  go_enter Tryd.func60, Tryd.ntmps60
  go_wp2
  go_ret
  exact ⟨ret_int (by omega), rfl⟩

/-- The number of players of costs of this length. -/
def tzN (L : Nat) : Nat := if L = 0 then 64 else if L % 2 = 1 then 0 else if L % 4 = 2 then 1 else if L % 8 = 4 then 2 else if L % 16 = 8 then 3 else 4
set_option maxHeartbeats 4000000 in
set_option maxRecDepth 1000000 in
theorem tz64_any (L : Nat) (hL : L ≤ 18) (w : World) (ht : Tab w) : Calls Tryd.prog 94 #[.int .u64 L] w fun e w' => e = .returned (.int .i64 (tzN L)) ∧ w = w' := by
  obtain ⟨h0, h1, h2, h3, h4⟩ := ht
  have : L = 0 ∨ L = 1 ∨ L = 2 ∨ L = 3 ∨ L = 4 ∨ L = 5 ∨ L = 6 ∨ L = 7 ∨ L = 8 ∨ L = 9 ∨ L = 10 ∨ L = 11 ∨ L = 12 ∨ L = 13 ∨ L = 14 ∨ L = 15 ∨ L = 16 ∨ L = 17 ∨ L = 18 := by omega
  rcases this with rfl | rfl | rfl | rfl | rfl | rfl | rfl | rfl | rfl | rfl | rfl | rfl | rfl | rfl | rfl | rfl | rfl | rfl | rfl
  · go_enter Tryd.func94, Tryd.ntmps94
    go_wp2
    go_ret
    exact ⟨ret_int (by decide +kernel), rfl⟩
  · have hq : IntKind.u64.wrap (bits BinOp.and IntKind.u64 1 (IntKind.u64.wrap (-1)) * 285870213051353865) / 288230376151711744 = 0 := by decide +kernel
    go_enter Tryd.func94, Tryd.ntmps94
    go_wp2
    go_ret
    exact ⟨ret_int (by decide +kernel), rfl⟩
  · have hq : IntKind.u64.wrap (bits BinOp.and IntKind.u64 2 (IntKind.u64.wrap (-2)) * 285870213051353865) / 288230376151711744 = 1 := by decide +kernel
    go_enter Tryd.func94, Tryd.ntmps94
    go_wp2
    go_ret
    exact ⟨ret_int (by decide +kernel), rfl⟩
  · have hq : IntKind.u64.wrap (bits BinOp.and IntKind.u64 3 (IntKind.u64.wrap (-3)) * 285870213051353865) / 288230376151711744 = 0 := by decide +kernel
    go_enter Tryd.func94, Tryd.ntmps94
    go_wp2
    go_ret
    exact ⟨ret_int (by decide +kernel), rfl⟩
  · have hq : IntKind.u64.wrap (bits BinOp.and IntKind.u64 4 (IntKind.u64.wrap (-4)) * 285870213051353865) / 288230376151711744 = 3 := by decide +kernel
    go_enter Tryd.func94, Tryd.ntmps94
    go_wp2
    go_ret
    exact ⟨ret_int (by decide +kernel), rfl⟩
  · have hq : IntKind.u64.wrap (bits BinOp.and IntKind.u64 5 (IntKind.u64.wrap (-5)) * 285870213051353865) / 288230376151711744 = 0 := by decide +kernel
    go_enter Tryd.func94, Tryd.ntmps94
    go_wp2
    go_ret
    exact ⟨ret_int (by decide +kernel), rfl⟩
  · have hq : IntKind.u64.wrap (bits BinOp.and IntKind.u64 6 (IntKind.u64.wrap (-6)) * 285870213051353865) / 288230376151711744 = 1 := by decide +kernel
    go_enter Tryd.func94, Tryd.ntmps94
    go_wp2
    go_ret
    exact ⟨ret_int (by decide +kernel), rfl⟩
  · have hq : IntKind.u64.wrap (bits BinOp.and IntKind.u64 7 (IntKind.u64.wrap (-7)) * 285870213051353865) / 288230376151711744 = 0 := by decide +kernel
    go_enter Tryd.func94, Tryd.ntmps94
    go_wp2
    go_ret
    exact ⟨ret_int (by decide +kernel), rfl⟩
  · have hq : IntKind.u64.wrap (bits BinOp.and IntKind.u64 8 (IntKind.u64.wrap (-8)) * 285870213051353865) / 288230376151711744 = 7 := by decide +kernel
    go_enter Tryd.func94, Tryd.ntmps94
    go_wp2
    go_ret
    exact ⟨ret_int (by decide +kernel), rfl⟩
  · have hq : IntKind.u64.wrap (bits BinOp.and IntKind.u64 9 (IntKind.u64.wrap (-9)) * 285870213051353865) / 288230376151711744 = 0 := by decide +kernel
    go_enter Tryd.func94, Tryd.ntmps94
    go_wp2
    go_ret
    exact ⟨ret_int (by decide +kernel), rfl⟩
  · have hq : IntKind.u64.wrap (bits BinOp.and IntKind.u64 10 (IntKind.u64.wrap (-10)) * 285870213051353865) / 288230376151711744 = 1 := by decide +kernel
    go_enter Tryd.func94, Tryd.ntmps94
    go_wp2
    go_ret
    exact ⟨ret_int (by decide +kernel), rfl⟩
  · have hq : IntKind.u64.wrap (bits BinOp.and IntKind.u64 11 (IntKind.u64.wrap (-11)) * 285870213051353865) / 288230376151711744 = 0 := by decide +kernel
    go_enter Tryd.func94, Tryd.ntmps94
    go_wp2
    go_ret
    exact ⟨ret_int (by decide +kernel), rfl⟩
  · have hq : IntKind.u64.wrap (bits BinOp.and IntKind.u64 12 (IntKind.u64.wrap (-12)) * 285870213051353865) / 288230376151711744 = 3 := by decide +kernel
    go_enter Tryd.func94, Tryd.ntmps94
    go_wp2
    go_ret
    exact ⟨ret_int (by decide +kernel), rfl⟩
  · have hq : IntKind.u64.wrap (bits BinOp.and IntKind.u64 13 (IntKind.u64.wrap (-13)) * 285870213051353865) / 288230376151711744 = 0 := by decide +kernel
    go_enter Tryd.func94, Tryd.ntmps94
    go_wp2
    go_ret
    exact ⟨ret_int (by decide +kernel), rfl⟩
  · have hq : IntKind.u64.wrap (bits BinOp.and IntKind.u64 14 (IntKind.u64.wrap (-14)) * 285870213051353865) / 288230376151711744 = 1 := by decide +kernel
    go_enter Tryd.func94, Tryd.ntmps94
    go_wp2
    go_ret
    exact ⟨ret_int (by decide +kernel), rfl⟩
  · have hq : IntKind.u64.wrap (bits BinOp.and IntKind.u64 15 (IntKind.u64.wrap (-15)) * 285870213051353865) / 288230376151711744 = 0 := by decide +kernel
    go_enter Tryd.func94, Tryd.ntmps94
    go_wp2
    go_ret
    exact ⟨ret_int (by decide +kernel), rfl⟩
  · have hq : IntKind.u64.wrap (bits BinOp.and IntKind.u64 16 (IntKind.u64.wrap (-16)) * 285870213051353865) / 288230376151711744 = 15 := by decide +kernel
    go_enter Tryd.func94, Tryd.ntmps94
    go_wp2
    go_ret
    exact ⟨ret_int (by decide +kernel), rfl⟩
  · have hq : IntKind.u64.wrap (bits BinOp.and IntKind.u64 17 (IntKind.u64.wrap (-17)) * 285870213051353865) / 288230376151711744 = 0 := by decide +kernel
    go_enter Tryd.func94, Tryd.ntmps94
    go_wp2
    go_ret
    exact ⟨ret_int (by decide +kernel), rfl⟩
  · have hq : IntKind.u64.wrap (bits BinOp.and IntKind.u64 18 (IntKind.u64.wrap (-18)) * 285870213051353865) / 288230376151711744 = 1 := by decide +kernel
    go_enter Tryd.func94, Tryd.ntmps94
    go_wp2
    go_ret
    exact ⟨ret_int (by decide +kernel), rfl⟩
theorem tz_any (L : Nat) (hL : L ≤ 18) (w : World) (ht : Tab w) : Calls Tryd.prog 81 #[.int .u64 L] w fun e w' => e = .returned (.int .i64 (tzN L)) ∧ w = w' := by
  have H := Lib.hid (tz64_any L hL w ht)
  clear ht
  go_enter Tryd.func81, Tryd.ntmps81
  go_wp2_with fail
  refine H.out.mono ?_
  rintro e w' ⟨rfl, rfl⟩
  go_wp2
  go_ret
  exact ⟨rfl, rfl⟩
theorem players_any (A : Option Addr) (L c : Nat) (hL : L ≤ 18) (w : World) (ht : Tab w) : Calls Tryd.prog 57 #[.slice A L c] w fun e w' => e = .returned (.int .i64 (tzN L)) ∧ w = w' := by
  have H := Lib.hid (tz_any L hL w ht)
  clear ht
  go_enter Tryd.func57, Tryd.ntmps57
  go_wp2_with fail
  refine H.out.mono ?_
  rintro e w' ⟨rfl, rfl⟩
  go_wp2
  go_ret
  exact ⟨rfl, rfl⟩

theorem players_at (A : Option Addr) (L c n : Nat) (hn : tzN L = n) (hL : L ≤ 18) (w : World) (ht : Tab w) : Calls Tryd.prog 57 #[.slice A L c] w fun e w' => e = .returned (.int .i64 (n : Int)) ∧ w = w' := by
  rw [← hn]
  exact players_any A L c hL w ht
theorem within_at (x a b : Int) (q : Bool) (hq : wtB x a b = q) (w : World) : Calls Tryd.prog 79 #[.int .i64 x, .int .i64 a, .int .i64 b] w fun e w' => e = .returned (.bool q) ∧ w = w' := by
  rw [← hq]
  exact within_any x a b w

/-- What a cost may not be. -/
def noC (x : Int) : Bool := !(wtB x 0 1000)
theorem costs1_any (x : Int) (w : World) : Calls Tryd.prog 92 #[.int .i64 x] w fun e w' => e = .returned (.bool (noC x)) ∧ w = w' := by
  have HN : Hid (noC x = !(wtB x 0 1000)) := Lib.hid rfl
  go_enter Tryd.func92, Tryd.ntmps92
  go_wp2_with fail
  refine (within_any x 0 1000 w).mono ?_
  rintro e w' ⟨rfl, rfl⟩
  generalize wtB x 0 1000 = b at *
  go_wp2
  go_ret
  exact ⟨ret_bool HN.out.symm, rfl⟩
set_option maxHeartbeats 1000000 in
theorem indexCosts_any (A : Option Addr) (n c : Nat) (f : Nat → Int) (w : World) (h : Ints w A n f) (hn : n ≤ maxLen) :
    Calls Tryd.prog 111 #[.slice A n c, .func (.func 92) #[] #[]] w fun e w' => ∃ r : Int, e = .returned (.int .i64 r) ∧ -1 ≤ r ∧ r ≤ n ∧ (decide (0 ≤ r)) = anyB (fun k => noC (f k)) n ∧ w = w' := by
  have H := Lib.hid h
  have hm : n ≤ 9223372036854775807 := by unfold maxLen at hn; omega
  clear h hn
  go_enter Tryd.func111, Tryd.ntmps111
  go_wp2
  go_loop [8] (fun i => ∃ k : Nat, k ≤ n ∧ i = .int .i64 k ∧ NoneLt (fun k => noC (f k)) k) (fun i => n - (intOf i).toNat)
  case atStart => exact ⟨0, Nat.zero_le _, rfl, NoneLt.zero⟩
  case round =>
    obtain ⟨k, hk, rfl, he⟩ := hrel
    have HE := Lib.hid he
    clear he
    by_cases hlt : k < n
    · obtain ⟨b, o, rfl, hc⟩ := H.out.at hlt
      go_wp2_with fail
      refine (costs1_any (f k) w).mono ?_
      rintro e w' ⟨rfl, rfl⟩
      cases hx : noC (f k) with
      | true =>
        have HR : Hid (anyB (fun k => noC (f k)) n = true) := Lib.hid (anyB_t hlt hx)
        clear hx
        go_wp2
        go_ret
        exact ⟨k, rfl, by omega, by omega, by rw [HR.out]; simp, rfl⟩
      | false =>
        have HE2 := Lib.hid (HE.out.succ hx)
        clear hx
        go_wp2
        go_round
        case rel => exact ⟨k + 1, by omega, by go_num, HE2.out⟩
        case measure => simp [intOf]; omega
    · obtain rfl : n = k := by omega
      go_wp2
      go_ret
      exact ⟨-1, rfl, by omega, by omega, by rw [anyB_f HE.out]; rfl, rfl⟩
theorem anyCosts_any (A : Option Addr) (n c : Nat) (f : Nat → Int) (w : World) (h : Ints w A n f) (hn : n ≤ maxLen) :
    Calls Tryd.prog 91 #[.slice A n c, .func (.func 92) #[] #[]] w fun e w' => e = .returned (.bool (anyB (fun k => noC (f k)) n)) ∧ w = w' := by
  have H := Lib.hid (indexCosts_any A n c f w h hn)
  clear h hn
  go_enter Tryd.func91, Tryd.ntmps91
  go_wp2_with fail
  refine H.out.mono ?_
  rintro e w' ⟨r, rfl, h1, h2, h3, rfl⟩
  have H3 := Lib.hid h3
  clear h3
  go_wp2
  go_ret
  exact ⟨ret_bool H3.out, rfl⟩
/-- All are as a cost may be. -/
def csB (f : Nat → Int) (n : Nat) : Bool := !(anyB (fun k => noC (f k)) n)
theorem csB_iff {f : Nat → Int} {n : Nat} : csB f n = true ↔ ∀ k, k < n → 0 ≤ f k ∧ f k ≤ 1000 := by
  unfold csB
  constructor
  · intro h k hk
    cases hx : noC (f k) with
    | true => rw [anyB_t (p := fun k => noC (f k)) hk hx] at h; cases h
    | false =>
      unfold noC at hx
      have : wtB (f k) 0 1000 = true := by simpa using hx
      exact wtB_iff.1 this
  · intro h
    rw [anyB_f (fun k hk => by simp only [noC]; rw [wtB_iff.2 (h k hk)]; rfl)]
    rfl
theorem areCosts_any (A : Option Addr) (n c : Nat) (f : Nat → Int) (w : World) (h : Ints w A n f) (hn : n ≤ maxLen) :
    Calls Tryd.prog 80 #[.slice A n c] w fun e w' => e = .returned (.bool (csB f n)) ∧ w = w' := by
  have H := Lib.hid (anyCosts_any A n c f w h hn)
  have HN : Hid (csB f n = !(anyB (fun k => noC (f k)) n)) := Lib.hid rfl
  clear h hn
  go_enter Tryd.func80, Tryd.ntmps80
  go_wp2_with fail
  refine H.out.mono ?_
  rintro e w' ⟨rfl, rfl⟩
  generalize anyB (fun k => noC (f k)) n = b at *
  go_wp2
  go_ret
  exact ⟨ret_bool HN.out.symm, rfl⟩

/-- Costs: for 1 to 4 players. -/
def okC (L : Nat) (C : Nat → Int) : Bool := decide (L = 2 ∨ L = 4 ∨ L = 8 ∨ L = 16) && (decide (C 0 = 0) && csB C L)
theorem okC_iff {L : Nat} {C : Nat → Int} : okC L C = true ↔ (L = 2 ∨ L = 4 ∨ L = 8 ∨ L = 16) ∧ C 0 = 0 ∧ ∀ k, k < L → 0 ≤ C k ∧ C k ≤ 1000 := by
  unfold okC
  rw [Bool.and_eq_true, Bool.and_eq_true, decide_eq_true_iff, decide_eq_true_iff, csB_iff]
set_option maxHeartbeats 4000000 in
set_option maxRecDepth 1000000 in
theorem valid_any (A : Option Addr) (L c : Nat) (C : Nat → Int) (w : World) (h : Ints w A L C) (hL : L ≤ 18) (ht : Tab w) :
    Calls Tryd.prog 56 #[.slice A L c] w fun e w' => e = .returned (.bool (okC L C)) ∧ w = w' := by
  have H := Lib.hid h
  have HT := Lib.hid ht
  have HO : Hid (okC L C = (decide (L = 2 ∨ L = 4 ∨ L = 8 ∨ L = 16) && (decide (C 0 = 0) && csB C L))) := Lib.hid rfl
  clear h ht
  by_cases hg : L = 2 ∨ L = 4 ∨ L = 8 ∨ L = 16
  · obtain ⟨b, o, rfl, hc⟩ := H.out.at (show 0 < L by omega)
    simp only [Nat.add_zero] at hc
    have HE : Hid (okC L C = (decide (C 0 = 0) && csB C L)) := Lib.hid (by rw [HO.out, decide_eq_true hg]; rfl)
    by_cases hz : C 0 = 0
    · have HE2 : Hid (okC L C = csB C L) := Lib.hid (by rw [HE.out, decide_eq_true hz]; rfl)
      rw [hz] at hc
      clear hz HE HO
      rcases hg with rfl | rfl | rfl | rfl
      · go_enter Tryd.func56, Tryd.ntmps56
        go_wp2_with fail
        refine (players_at _ _ c 1 (by decide) (by omega) w HT.out).mono ?_
        rintro e w' ⟨rfl, rfl⟩
        go_wp2_with fail
        refine (within_at _ 1 4 true (by decide) w).mono ?_
        rintro e w' ⟨rfl, rfl⟩
        go_wp2_with fail
        refine (areCosts_any _ _ c C w H.out (by unfold maxLen; omega)).mono ?_
        rintro e w' ⟨rfl, rfl⟩
        go_wp2
        go_ret
        exact ⟨ret_bool HE2.out.symm, rfl⟩
      · go_enter Tryd.func56, Tryd.ntmps56
        go_wp2_with fail
        refine (players_at _ _ c 2 (by decide) (by omega) w HT.out).mono ?_
        rintro e w' ⟨rfl, rfl⟩
        go_wp2_with fail
        refine (within_at _ 1 4 true (by decide) w).mono ?_
        rintro e w' ⟨rfl, rfl⟩
        go_wp2_with fail
        refine (areCosts_any _ _ c C w H.out (by unfold maxLen; omega)).mono ?_
        rintro e w' ⟨rfl, rfl⟩
        go_wp2
        go_ret
        exact ⟨ret_bool HE2.out.symm, rfl⟩
      · go_enter Tryd.func56, Tryd.ntmps56
        go_wp2_with fail
        refine (players_at _ _ c 3 (by decide) (by omega) w HT.out).mono ?_
        rintro e w' ⟨rfl, rfl⟩
        go_wp2_with fail
        refine (within_at _ 1 4 true (by decide) w).mono ?_
        rintro e w' ⟨rfl, rfl⟩
        go_wp2_with fail
        refine (areCosts_any _ _ c C w H.out (by unfold maxLen; omega)).mono ?_
        rintro e w' ⟨rfl, rfl⟩
        go_wp2
        go_ret
        exact ⟨ret_bool HE2.out.symm, rfl⟩
      · go_enter Tryd.func56, Tryd.ntmps56
        go_wp2_with fail
        refine (players_at _ _ c 4 (by decide) (by omega) w HT.out).mono ?_
        rintro e w' ⟨rfl, rfl⟩
        go_wp2_with fail
        refine (within_at _ 1 4 true (by decide) w).mono ?_
        rintro e w' ⟨rfl, rfl⟩
        go_wp2_with fail
        refine (areCosts_any _ _ c C w H.out (by unfold maxLen; omega)).mono ?_
        rintro e w' ⟨rfl, rfl⟩
        go_wp2
        go_ret
        exact ⟨ret_bool HE2.out.symm, rfl⟩
    · have HE2 : Hid (okC L C = false) := Lib.hid (by rw [HE.out, decide_eq_false hz]; rfl)
      have hzb := beq_f hz
      clear hz HE HO
      rcases hg with rfl | rfl | rfl | rfl
      · go_enter Tryd.func56, Tryd.ntmps56
        go_wp2_with fail
        refine (players_at _ _ c 1 (by decide) (by omega) w HT.out).mono ?_
        rintro e w' ⟨rfl, rfl⟩
        go_wp2_with fail
        refine (within_at _ 1 4 true (by decide) w).mono ?_
        rintro e w' ⟨rfl, rfl⟩
        go_wp2
        go_ret
        exact ⟨ret_bool HE2.out.symm, rfl⟩
      · go_enter Tryd.func56, Tryd.ntmps56
        go_wp2_with fail
        refine (players_at _ _ c 2 (by decide) (by omega) w HT.out).mono ?_
        rintro e w' ⟨rfl, rfl⟩
        go_wp2_with fail
        refine (within_at _ 1 4 true (by decide) w).mono ?_
        rintro e w' ⟨rfl, rfl⟩
        go_wp2
        go_ret
        exact ⟨ret_bool HE2.out.symm, rfl⟩
      · go_enter Tryd.func56, Tryd.ntmps56
        go_wp2_with fail
        refine (players_at _ _ c 3 (by decide) (by omega) w HT.out).mono ?_
        rintro e w' ⟨rfl, rfl⟩
        go_wp2_with fail
        refine (within_at _ 1 4 true (by decide) w).mono ?_
        rintro e w' ⟨rfl, rfl⟩
        go_wp2
        go_ret
        exact ⟨ret_bool HE2.out.symm, rfl⟩
      · go_enter Tryd.func56, Tryd.ntmps56
        go_wp2_with fail
        refine (players_at _ _ c 4 (by decide) (by omega) w HT.out).mono ?_
        rintro e w' ⟨rfl, rfl⟩
        go_wp2_with fail
        refine (within_at _ 1 4 true (by decide) w).mono ?_
        rintro e w' ⟨rfl, rfl⟩
        go_wp2
        go_ret
        exact ⟨ret_bool HE2.out.symm, rfl⟩
  · have HE2 : Hid (okC L C = false) := Lib.hid (by rw [HO.out, decide_eq_false hg]; rfl)
    have hh : L = 0 ∨ L = 1 ∨ L = 3 ∨ L = 5 ∨ L = 6 ∨ L = 7 ∨ L = 9 ∨ L = 10 ∨ L = 11 ∨ L = 12 ∨ L = 13 ∨ L = 14 ∨ L = 15 ∨ L = 17 ∨ L = 18 := by omega
    clear hg HO
    rcases hh with rfl | rfl | rfl | rfl | rfl | rfl | rfl | rfl | rfl | rfl | rfl | rfl | rfl | rfl | rfl
    · go_enter Tryd.func56, Tryd.ntmps56
      go_wp2_with fail
      refine (players_at _ _ c 64 (by decide) (by omega) w HT.out).mono ?_
      rintro e w' ⟨rfl, rfl⟩
      go_wp2_with fail
      refine (within_at _ 1 4 false (by decide) w).mono ?_
      rintro e w' ⟨rfl, rfl⟩
      go_wp2
      go_ret
      exact ⟨ret_bool HE2.out.symm, rfl⟩
    · go_enter Tryd.func56, Tryd.ntmps56
      go_wp2_with fail
      refine (players_at _ _ c 0 (by decide) (by omega) w HT.out).mono ?_
      rintro e w' ⟨rfl, rfl⟩
      go_wp2_with fail
      refine (within_at _ 1 4 false (by decide) w).mono ?_
      rintro e w' ⟨rfl, rfl⟩
      go_wp2
      go_ret
      exact ⟨ret_bool HE2.out.symm, rfl⟩
    · go_enter Tryd.func56, Tryd.ntmps56
      go_wp2_with fail
      refine (players_at _ _ c 0 (by decide) (by omega) w HT.out).mono ?_
      rintro e w' ⟨rfl, rfl⟩
      go_wp2_with fail
      refine (within_at _ 1 4 false (by decide) w).mono ?_
      rintro e w' ⟨rfl, rfl⟩
      go_wp2
      go_ret
      exact ⟨ret_bool HE2.out.symm, rfl⟩
    · go_enter Tryd.func56, Tryd.ntmps56
      go_wp2_with fail
      refine (players_at _ _ c 0 (by decide) (by omega) w HT.out).mono ?_
      rintro e w' ⟨rfl, rfl⟩
      go_wp2_with fail
      refine (within_at _ 1 4 false (by decide) w).mono ?_
      rintro e w' ⟨rfl, rfl⟩
      go_wp2
      go_ret
      exact ⟨ret_bool HE2.out.symm, rfl⟩
    · go_enter Tryd.func56, Tryd.ntmps56
      go_wp2_with fail
      refine (players_at _ _ c 1 (by decide) (by omega) w HT.out).mono ?_
      rintro e w' ⟨rfl, rfl⟩
      go_wp2_with fail
      refine (within_at _ 1 4 true (by decide) w).mono ?_
      rintro e w' ⟨rfl, rfl⟩
      go_wp2
      go_ret
      exact ⟨ret_bool HE2.out.symm, rfl⟩
    · go_enter Tryd.func56, Tryd.ntmps56
      go_wp2_with fail
      refine (players_at _ _ c 0 (by decide) (by omega) w HT.out).mono ?_
      rintro e w' ⟨rfl, rfl⟩
      go_wp2_with fail
      refine (within_at _ 1 4 false (by decide) w).mono ?_
      rintro e w' ⟨rfl, rfl⟩
      go_wp2
      go_ret
      exact ⟨ret_bool HE2.out.symm, rfl⟩
    · go_enter Tryd.func56, Tryd.ntmps56
      go_wp2_with fail
      refine (players_at _ _ c 0 (by decide) (by omega) w HT.out).mono ?_
      rintro e w' ⟨rfl, rfl⟩
      go_wp2_with fail
      refine (within_at _ 1 4 false (by decide) w).mono ?_
      rintro e w' ⟨rfl, rfl⟩
      go_wp2
      go_ret
      exact ⟨ret_bool HE2.out.symm, rfl⟩
    · go_enter Tryd.func56, Tryd.ntmps56
      go_wp2_with fail
      refine (players_at _ _ c 1 (by decide) (by omega) w HT.out).mono ?_
      rintro e w' ⟨rfl, rfl⟩
      go_wp2_with fail
      refine (within_at _ 1 4 true (by decide) w).mono ?_
      rintro e w' ⟨rfl, rfl⟩
      go_wp2
      go_ret
      exact ⟨ret_bool HE2.out.symm, rfl⟩
    · go_enter Tryd.func56, Tryd.ntmps56
      go_wp2_with fail
      refine (players_at _ _ c 0 (by decide) (by omega) w HT.out).mono ?_
      rintro e w' ⟨rfl, rfl⟩
      go_wp2_with fail
      refine (within_at _ 1 4 false (by decide) w).mono ?_
      rintro e w' ⟨rfl, rfl⟩
      go_wp2
      go_ret
      exact ⟨ret_bool HE2.out.symm, rfl⟩
    · go_enter Tryd.func56, Tryd.ntmps56
      go_wp2_with fail
      refine (players_at _ _ c 2 (by decide) (by omega) w HT.out).mono ?_
      rintro e w' ⟨rfl, rfl⟩
      go_wp2_with fail
      refine (within_at _ 1 4 true (by decide) w).mono ?_
      rintro e w' ⟨rfl, rfl⟩
      go_wp2
      go_ret
      exact ⟨ret_bool HE2.out.symm, rfl⟩
    · go_enter Tryd.func56, Tryd.ntmps56
      go_wp2_with fail
      refine (players_at _ _ c 0 (by decide) (by omega) w HT.out).mono ?_
      rintro e w' ⟨rfl, rfl⟩
      go_wp2_with fail
      refine (within_at _ 1 4 false (by decide) w).mono ?_
      rintro e w' ⟨rfl, rfl⟩
      go_wp2
      go_ret
      exact ⟨ret_bool HE2.out.symm, rfl⟩
    · go_enter Tryd.func56, Tryd.ntmps56
      go_wp2_with fail
      refine (players_at _ _ c 1 (by decide) (by omega) w HT.out).mono ?_
      rintro e w' ⟨rfl, rfl⟩
      go_wp2_with fail
      refine (within_at _ 1 4 true (by decide) w).mono ?_
      rintro e w' ⟨rfl, rfl⟩
      go_wp2
      go_ret
      exact ⟨ret_bool HE2.out.symm, rfl⟩
    · go_enter Tryd.func56, Tryd.ntmps56
      go_wp2_with fail
      refine (players_at _ _ c 0 (by decide) (by omega) w HT.out).mono ?_
      rintro e w' ⟨rfl, rfl⟩
      go_wp2_with fail
      refine (within_at _ 1 4 false (by decide) w).mono ?_
      rintro e w' ⟨rfl, rfl⟩
      go_wp2
      go_ret
      exact ⟨ret_bool HE2.out.symm, rfl⟩
    · go_enter Tryd.func56, Tryd.ntmps56
      go_wp2_with fail
      refine (players_at _ _ c 0 (by decide) (by omega) w HT.out).mono ?_
      rintro e w' ⟨rfl, rfl⟩
      go_wp2_with fail
      refine (within_at _ 1 4 false (by decide) w).mono ?_
      rintro e w' ⟨rfl, rfl⟩
      go_wp2
      go_ret
      exact ⟨ret_bool HE2.out.symm, rfl⟩
    · go_enter Tryd.func56, Tryd.ntmps56
      go_wp2_with fail
      refine (players_at _ _ c 1 (by decide) (by omega) w HT.out).mono ?_
      rintro e w' ⟨rfl, rfl⟩
      go_wp2_with fail
      refine (within_at _ 1 4 true (by decide) w).mono ?_
      rintro e w' ⟨rfl, rfl⟩
      go_wp2
      go_ret
      exact ⟨ret_bool HE2.out.symm, rfl⟩
end Go.Proofs.YtoeimngbpagegaaDoor
