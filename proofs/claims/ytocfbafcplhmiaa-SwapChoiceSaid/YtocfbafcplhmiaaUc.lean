/- swap: everyone, upTo, best, owning, onCycle. -/
import Derived.Test.YtocfbafcplhmiaaUb
namespace Go.Proofs.Ytocfbafcplhmiaa
open Go.RowKit

theorem pow_less : ∀ n : Nat, n < 6 → wrap64 (wrap64 ((2 : Int) ^ n) - 1) = ((2 ^ n - 1 : Nat) : Int) := by decide +kernel
set_option maxHeartbeats 1000000 in
set_option maxRecDepth 1000000 in
theorem everyone_any (A : Option Addr) (n c : Nat) (hn : n ≤ 5) (w : World) : Lr 61 #[.agg #[.int .i64 n, .slice A n c]] w (.int .i64 ((2 ^ n - 1 : Nat) : Int)) := by
  unfold Lr
  have hsh := fun w => shl_one n (by omega) w
  have hb := Lib.hid (box_bel w (.cells #[.int .i64 n, .slice A n c] 50))
  have HK := Lib.hid (pow_less n (by omega))
  go_enter Try.func61, Try.ntmps61
  go_wp2
  go_ret
  exact ⟨ret_int HK.out, hb.out⟩

set_option maxHeartbeats 1000000 in
set_option maxRecDepth 1000000 in
theorem upTo_any (n : Nat) (w : World) (hn : n ≤ 9) :
    Calls Try.prog 50 #[.int .i64 n] w fun e w' => e = .returned (.slice (some ⟨w.heap.size, 0, none⟩) n n) ∧ RowI w' w.heap.size n (fun j => (j : Int)) ∧ Exc w.heap.size w w' := by
  have hmk := mk_ints n (by omega)
  go_enter Try.func50, Try.ntmps50
  go_wp2
  clear hmk
  go_loopw [8] (fun i wr => ∃ j : Nat, j ≤ n ∧ i = .int .i64 j ∧ RowI wr w.heap.size n (fun q => if q < j then (q : Int) else 0) ∧ Exc w.heap.size w wr) (fun i _ => n - (intOf i).toNat)
  case atStart => exact ⟨0, Nat.zero_le _, rfl, (RowI.made w n).congr (fun i _ => by simp), Exc.of_below ((Below.refl _ w).alloc (Nat.le_refl _) _)⟩
  case round =>
    obtain ⟨j, hj, rfl, hR, hE⟩ := hrel
    have HR := Lib.hid hR
    have HE := Lib.hid hE
    clear hR hE
    by_cases hlt : j < n
    · have hc := HR.out.cell hlt
      have hf := HR.out.frozen j
      go_wp2
      go_roundw
      case rel =>
        refine ⟨j + 1, by omega, by go_num, (HR.out.set j (j : Int)).congr (fun i _ => ?_), HE.out.set j _⟩
        unfold upd
        by_cases e : i = j
        · rw [if_pos e, if_pos (by omega), e]
        · rw [if_neg e]
          show (if i < j then (i : Int) else 0) = _
          by_cases e2 : i < j
          · rw [if_pos e2, if_pos (by omega)]
          · rw [if_neg e2, if_neg (by omega)]
      case measure => simp [intOf]; omega
    · have hjn : j = n := by omega
      go_wp2
      go_ret
      exact ⟨rfl, HR.out.congr (fun i hi => by rw [if_pos (by omega)]), HE.out⟩

theorem best1_any (S x : Nat) (hx : x < 64) (p : Nat) (w : World) (hp : w.cell? ⟨p, 0, none⟩ = some (.int .i64 S)) :
    Calls Try.prog 91 #[.int .i64 x, .pointer (some ⟨p, 0, none⟩)] w fun e w' => e = .returned (.bool (inS S x)) ∧ w = w' := by
  go_enter Try.func91, Try.ntmps91
  go_wp2_with fail
  refine (has_any S x hx w).mono ?_
  rintro e w' ⟨rfl, rfl⟩
  go_wp2
  go_ret
  exact ⟨rfl, rfl⟩
set_option maxHeartbeats 1000000 in
set_option maxRecDepth 1000000 in
theorem indexF_any (A : Option Addr) (n c : Nat) (f : Nat → Nat) (w : World) (h : Ints w A n (fun k => (f k : Int))) (hn : n ≤ 9) (hf : ∀ k, k < n → f k < 64) (S p : Nat) (hp : w.cell? ⟨p, 0, none⟩ = some (.int .i64 S))
    (hex : ∃ k, k < n ∧ inS S (f k) = true) :
    Calls Try.prog 90 #[.slice A n c, .func (.func 91) #[] #[.pointer (some ⟨p, 0, none⟩)]] w fun e w' => e = .returned (.int .i64 (fsN (fun k => inS S (f k)) n)) ∧ w = w' := by
  have H := Lib.hid h
  have HFS := Lib.hid hf
  obtain ⟨k0, hk0, hs0⟩ := hex
  have HE : Hid (∀ k, k < n → inS S (f k) = true → (∀ j, j < k → inS S (f j) = false) → fsN (fun k => inS S (f k)) n = k) := Lib.hid (fun k hk h1 h2 => fsN_eq (p := fun k => inS S (f k)) hk h1 h2)
  have HC := Lib.hid (fun k hk => best1_any S (f k) (hf k hk) p w hp)
  have HS0 := Lib.hid hs0
  generalize fsN (fun k => inS S (f k)) n = r at *
  clear h hf hs0 hp
  go_enter Try.func90, Try.ntmps90
  go_wp2_with fail
  go_loop [8] (fun i => ∃ k : Nat, k ≤ k0 ∧ i = .int .i64 k ∧ ∀ j, j < k → inS S (f j) = false) (fun i => n - (intOf i).toNat)
  case atStart => exact ⟨0, Nat.zero_le _, rfl, fun j hj => absurd hj (by omega)⟩
  case round =>
    obtain ⟨k, hk, rfl, he⟩ := hrel
    have HEk := Lib.hid he
    clear he
    have hlt : k < n := by omega
    obtain ⟨b, o, rfl, hc⟩ := H.out.at hlt
    have HCk := Lib.hid (HC.out k hlt)
    go_wp2_with fail
    refine HCk.out.mono ?_
    rintro e w' ⟨rfl, rfl⟩
    clear HCk
    cases hb : inS S (f k) with
    | true =>
      have HR := Lib.hid (HE.out k hlt hb HEk.out)
      clear hb
      go_wp2
      go_ret
      exact ⟨ret_int (by rw [HR.out]), rfl⟩
    | false =>
      have hne : k ≠ k0 := fun e => by rw [e, HS0.out] at hb; cases hb
      have HE2 : Hid (∀ j, j < k + 1 → inS S (f j) = false) := Lib.hid (fun j hj => by
        rcases Nat.lt_or_ge j k with hl | hl
        · exact HEk.out j hl
        · obtain rfl : j = k := by omega
          exact hb)
      clear hb
      go_wp2
      go_round
      case rel => exact ⟨k + 1, by omega, by go_num, HE2.out⟩
      case measure => simp [intOf]; omega
/-- The best thing of a set for person i. -/
def bsB (t : Nat → Nat → Nat) (n S i : Nat) : Nat := t i (fsN (fun k => inS S (t i k)) n)
/-- Wishes that are read. -/
def Wis (w : World) (A : Option Addr) (n : Nat) (t : Nat → Nat → Nat) : Prop := RowsK w A n (fun _ => n) (fun i k => (t i k : Int))
theorem Wis.keep {w w' : World} {A : Option Addr} {n : Nat} {t : Nat → Nat → Nat} (h : Wis w A n t) (hb : Below w.heap.size w w') : Wis w' A n t := RowsK.keep h hb
theorem Wis.dn {w w' : World} {A : Option Addr} {n : Nat} {t : Nat → Nat → Nat} (h : Wis w A n t) (hd : Dn w w') : Wis w' A n t := RowsK.dn h hd
set_option maxHeartbeats 1000000 in
set_option maxRecDepth 1000000 in
theorem best_any (A : Option Addr) (n c : Nat) (t : Nat → Nat → Nat) (i S : Nat) (w : World) (h : Wis w A n t) (hn : n ≤ 5) (hi : i < n) (ht : ∀ k, k < n → t i k < n) (hex : ∃ k, k < n ∧ inS S (t i k) = true) :
    Lr 79 #[.agg #[.int .i64 n, .slice A n c], .int .i64 i, .int .i64 S] w (.int .i64 (bsB t n S i)) := by
  unfold Lr
  have hb1 := box_bel w (.cells #[.int .i64 n, .slice A n c] 50)
  have hs1 : (w.alloc (.cells #[.int .i64 n, .slice A n c] 50)).heap.size = w.heap.size + 1 := by simp
  have hx1 := box2_at w (.int .i64 n) (.slice A n c) 50
  obtain ⟨W1, hW1⟩ : ∃ W1, W1 = w.alloc (.cells #[.int .i64 n, .slice A n c] 50) := ⟨_, rfl⟩
  rw [← hW1] at hb1 hs1 hx1
  have hb2 := box_bel W1 (.cells #[.int .i64 S] 3)
  have hx2 := box1_at W1 (.int .i64 S) 3
  have HB := Lib.hid (hb1.trans (hb2.mono hb1.size))
  have HX := Lib.hid (hx1.keep hb2)
  have hI := h.keep (hb1.trans (hb2.mono hb1.size))
  obtain ⟨b, o, A', c', rfl, hc, hcc, hI'⟩ := RowsK.at hI hi
  have hfs : fsN (fun k => inS S (t i k)) n < n := by
    obtain ⟨k, hk, e⟩ := hex
    exact (fsN_lt (p := fun k => inS S (t i k)) hk e).1
  obtain ⟨b2, o2, rfl, hcv⟩ := hI'.at hfs
  rw [hs1] at hx2
  have HF := Lib.hid (indexF_any (some ⟨b2, o2, none⟩) n c' (t i) (W1.alloc (.cells #[.int .i64 S] 3)) hI' (by omega) (fun k hk => by have := ht k hk; omega) S (w.heap.size + 1) hx2 hex)
  have HU : Hid (bsB t n S i = t i (fsN (fun k => inS S (t i k)) n)) := Lib.hid rfl
  have e0 := HX.out.1
  have e1 := HX.out.2
  generalize fsN (fun k => inS S (t i k)) n = r at *
  have HW1 := Lib.hid hW1
  clear hb1 hb2 hx1 hx2 hI hI' hex hs1 hcc h ht
  rw [hW1] at HF HB hc hcv e0 e1
  clear hW1 HX
  go_enter Try.func79, Try.ntmps79
  go_wp2_with fail
  refine HF.out.mono ?_
  rintro e w' ⟨rfl, rfl⟩
  go_wp2
  go_ret
  exact ⟨ret_int (by rw [HU.out]), HB.out⟩
end Go.Proofs.Ytocfbafcplhmiaa
