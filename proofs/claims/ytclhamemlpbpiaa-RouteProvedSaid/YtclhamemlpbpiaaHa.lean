/- Maps: isStop, valid, the reference's Valid. -/
import Derived.Test.YtclhamemlpbpiaaQa
import Derived.Test.YtclhamemlpbpiaaBool
import Derived.BigRegion
namespace Go.Proofs.Ytclhamemlpbpiaa
open Go.RowKit

def inB (N x : Int) : Bool := decide (0 ≤ x) && decide (x < N)
theorem inB_t {N x : Int} : inB N x = true ↔ 0 ≤ x ∧ x < N := by
  unfold inB
  rw [Bool.and_eq_true_iff, decide_eq_true_iff, decide_eq_true_iff]
set_option maxRecDepth 1000000 in
theorem isStop_any (A : Option Addr) (m c : Nat) (N x : Int) (w : World) : Lr 30 #[.agg #[.int .i64 N, .slice A m c], .int .i64 x] w (.bool (inB N x)) := by
  unfold Lr
  have e : inB N x = (decide (0 ≤ x) && decide (x < N)) := rfl
  by_cases h1 : 0 ≤ x
  · have E := Lib.hid (show inB N x = decide (x < N) by rw [e, decide_eq_true h1]; rfl)
    clear e
    go_enter Try.func30, Try.ntmps30
    go_wp2
    go_ret
    exact ⟨ret_bool E.out.symm, (Below.refl _ _).alloc (Nat.le_refl _) _⟩
  · have E := Lib.hid (show inB N x = false by rw [e, decide_eq_false h1]; rfl)
    clear e
    go_enter Try.func30, Try.ntmps30
    go_wp2
    go_ret
    exact ⟨ret_bool E.out.symm, (Below.refl _ _).alloc (Nat.le_refl _) _⟩

/-- A road is one of the map's; the map is one. -/
def rdP (N : Int) (F : Nat → Nat → Int) (k : Nat) : Bool := (inB N (F k 0) && inB N (F k 1)) && (!decide (F k 0 = F k 1) && (decide (1 ≤ F k 2) && decide (F k 2 ≤ 50)))
def okM (N : Int) (m : Nat) (F : Nat → Nat → Int) : Bool := (decide (1 ≤ N) && decide (N ≤ 8)) && (decide (m ≤ 16) && allB (rdP N F) m)
theorem rdP_iff {N : Int} {F : Nat → Nat → Int} {k : Nat} : rdP N F k = true ↔ (0 ≤ F k 0 ∧ F k 0 < N) ∧ (0 ≤ F k 1 ∧ F k 1 < N) ∧ F k 0 ≠ F k 1 ∧ 1 ≤ F k 2 ∧ F k 2 ≤ 50 := by
  simp only [rdP, inB, Bool.and_eq_true, decide_eq_true_iff, Bool.not_eq_true', decide_eq_false_iff_not]
  omega
theorem okM_iff {N : Int} {m : Nat} {F : Nat → Nat → Int} : okM N m F = true ↔ (1 ≤ N ∧ N ≤ 8) ∧ m ≤ 16 ∧ ∀ k, k < m → (0 ≤ F k 0 ∧ F k 0 < N) ∧ (0 ≤ F k 1 ∧ F k 1 < N) ∧ F k 0 ≠ F k 1 ∧ 1 ≤ F k 2 ∧ F k 2 ≤ 50 := by
  unfold okM
  rw [Bool.and_eq_true_iff, Bool.and_eq_true_iff, Bool.and_eq_true_iff, decide_eq_true_iff, decide_eq_true_iff, decide_eq_true_iff, allB_iff]
  simp only [rdP_iff]

set_option maxHeartbeats 2000000 in
set_option maxRecDepth 1000000 in
theorem validM_any (A : Option Addr) (m c : Nat) (N : Int) (F : Nat → Nat → Int) (w : World) (h : Recs 3 w A m F) (hm : m ≤ maxLen) :
    Lr 28 #[.agg #[.int .i64 N, .slice A m c]] w (.bool (okM N m F)) := by
  unfold Lr
  have hm2 : m ≤ 9223372036854775807 := by unfold maxLen at hm; omega
  have H := Lib.hid h
  clear h hm
  have HF : Hid (∀ k, k < m → rdP N F k = false → okM N m F = false) := Lib.hid (fun k hk h => by unfold okM; rw [allB_f hk h, Bool.and_false, Bool.and_false])
  have HT : Hid (AllLt (rdP N F) m → 1 ≤ N → N ≤ 8 → m ≤ 16 → okM N m F = true) := Lib.hid (fun h h1 h2 h3 => by unfold okM; rw [allB_t h]; simp [h1, h2, h3])
  obtain ⟨W1, hW1⟩ : ∃ W1, W1 = w.alloc (.cells #[.int .i64 N, .slice A m c] 31) := ⟨_, rfl⟩
  have hb0 : Below w.heap.size w W1 := by
    rw [hW1]
    exact (Below.refl _ _).alloc (Nat.le_refl _) _
  have hx0 : W1.cell? ⟨w.heap.size, 0, none⟩ = some (.int .i64 N) := by rw [hW1]; simp [World.cell?_alloc_at]
  have hx1 : W1.cell? ⟨w.heap.size, 1, none⟩ = some (.slice A m c) := by rw [hW1]; simp [World.cell?_alloc_at]
  have HX : Hid (∀ w', Below W1.heap.size W1 w' → w'.cell? ⟨w.heap.size, 0, none⟩ = some (.int .i64 N) ∧ w'.cell? ⟨w.heap.size, 1, none⟩ = some (.slice A m c)) := Lib.hid (fun w' hb => ⟨(hb.cell (World.block_lt_of_cell? _ _ hx0)).trans hx0, (hb.cell (World.block_lt_of_cell? _ _ hx1)).trans hx1⟩)
  have HBW : Hid (∀ w', Below W1.heap.size W1 w' → Below w.heap.size w w') := Lib.hid (fun w' hb => hb0.trans (hb.mono hb0.size))
  have HW1 := Lib.hid hW1
  have HB1 := Lib.hid (show Below W1.heap.size W1 (w.alloc (.cells #[.int .i64 N, .slice A m c] 31)) by rw [hW1]; exact Below.refl _ _)
  clear hW1 hb0 hx0 hx1
  go_enter Try.func28, Try.ntmps28
  by_cases h1 : N < 1
  · have E := Lib.hid (show okM N m F = false by unfold okM; rw [decide_eq_false (show ¬ 1 ≤ N by omega), Bool.false_and, Bool.false_and])
    have d1 : decide (N < 1) = true := decide_eq_true h1
    go_wp2
    go_ret
    exact ⟨ret_bool E.out.symm, HBW.out _ HB1.out⟩
  have d1 : decide (N < 1) = false := decide_eq_false h1
  by_cases h8 : 8 < N
  · have E := Lib.hid (show okM N m F = false by unfold okM; rw [decide_eq_false (show ¬ N ≤ 8 by omega), Bool.and_false, Bool.false_and])
    have d2 : decide (8 < N) = true := decide_eq_true h8
    go_wp2
    go_ret
    exact ⟨ret_bool E.out.symm, HBW.out _ HB1.out⟩
  have d2 : decide (8 < N) = false := decide_eq_false h8
  by_cases h16 : 16 < m
  · have E := Lib.hid (show okM N m F = false by unfold okM; rw [decide_eq_false (show ¬ m ≤ 16 by omega), Bool.false_and, Bool.and_false])
    have d3 : decide (16 < (m : Int)) = true := decide_eq_true (by omega)
    go_wp2
    go_ret
    exact ⟨ret_bool E.out.symm, HBW.out _ HB1.out⟩
  have d3 : decide (16 < (m : Int)) = false := decide_eq_false (by omega)
  go_wp2
  go_loopw [22] (fun i wr => ∃ k : Nat, k ≤ m ∧ i = .int .i64 k ∧ AllLt (rdP N F) k ∧ Below W1.heap.size W1 wr) (fun i _ => m - (intOf i).toNat)
  case atStart => exact ⟨0, Nat.zero_le _, rfl, AllLt.zero, HB1.out⟩
  case round =>
    obtain ⟨k, hk, rfl, hA, hD⟩ := hrel
    by_cases hlt : k < m
    · obtain ⟨b, o, rfl, c0, c1, c2⟩ := (H.out.keep (HBW.out _ hD)).three hlt
      have HA := Lib.hid hA
      have HD := Lib.hid hD
      have hs : W1.heap.size ≤ wr.heap.size := hD.size
      have HR : Hid (∀ w', Below (wr.alloc (.cells #[.int .i64 (F k 0), .int .i64 (F k 1), .int .i64 (F k 2)] 66)).heap.size (wr.alloc (.cells #[.int .i64 (F k 0), .int .i64 (F k 1), .int .i64 (F k 2)] 66)) w' → (Below W1.heap.size W1 w' ∧ w'.cell? ⟨wr.heap.size, 0, none⟩ = some (.int .i64 (F k 0)) ∧ w'.cell? ⟨wr.heap.size, 1, none⟩ = some (.int .i64 (F k 1)) ∧ w'.cell? ⟨wr.heap.size, 2, none⟩ = some (.int .i64 (F k 2)))) := Lib.hid (fun w' hb => by
        have g0 : (wr.alloc (.cells #[.int .i64 (F k 0), .int .i64 (F k 1), .int .i64 (F k 2)] 66)).cell? ⟨wr.heap.size, 0, none⟩ = some (.int .i64 (F k 0)) := by simp [World.cell?_alloc_at]
        have g1 : (wr.alloc (.cells #[.int .i64 (F k 0), .int .i64 (F k 1), .int .i64 (F k 2)] 66)).cell? ⟨wr.heap.size, 1, none⟩ = some (.int .i64 (F k 1)) := by simp [World.cell?_alloc_at]
        have g2 : (wr.alloc (.cells #[.int .i64 (F k 0), .int .i64 (F k 1), .int .i64 (F k 2)] 66)).cell? ⟨wr.heap.size, 2, none⟩ = some (.int .i64 (F k 2)) := by simp [World.cell?_alloc_at]
        have hq := hD.alloc hs (.cells #[.int .i64 (F k 0), .int .i64 (F k 1), .int .i64 (F k 2)] 66)
        exact ⟨hq.trans (hb.mono hq.size), (hb.cell (World.block_lt_of_cell? _ _ g0)).trans g0, (hb.cell (World.block_lt_of_cell? _ _ g1)).trans g1, (hb.cell (World.block_lt_of_cell? _ _ g2)).trans g2⟩)
      obtain ⟨hbx0, hbx1⟩ := HX.out _ hD
      obtain ⟨hby0, hby1⟩ := HX.out _ (HR.out _ (Below.refl _ _)).1
      have HP : Hid (rdP N F k = ((inB N (F k 0) && inB N (F k 1)) && (!decide (F k 0 = F k 1) && (decide (1 ≤ F k 2) && decide (F k 2 ≤ 50))))) := Lib.hid rfl
      clear hA hD hs
      cases hi0 : inB N (F k 0) with
      | false =>
        have E := Lib.hid (HF.out k hlt (by rw [HP.out, hi0]; rfl))
        have HI := Lib.hid hi0
        clear hi0
        go_wp2_with fail
        refine (isStop_any (some ⟨b, o, none⟩) m c N (F k 0) _).use fun w2 hb2 => ?_
        rw [HI.out]
        obtain ⟨hBw2, -⟩ := HR.out w2 hb2
        have HB2 := Lib.hid (HBW.out _ hBw2)
        clear hb2 hbx0 hbx1 hby0 hby1 hBw2
        go_wp2
        go_ret
        exact ⟨ret_bool E.out.symm, HB2.out⟩
      | true =>
        have HI := Lib.hid hi0
        clear hi0
        go_wp2_with fail
        refine (isStop_any (some ⟨b, o, none⟩) m c N (F k 0) _).use fun w2 hb2 => ?_
        rw [HI.out]
        obtain ⟨hBw2, c0', c1', c2'⟩ := HR.out w2 hb2
        obtain ⟨hbx0', hbx1'⟩ := HX.out _ hBw2
        have HR2 := Lib.hid hb2
        have HB2 := Lib.hid hBw2
        clear hb2 hbx0 hbx1 hby0 hby1 hBw2 c0 c1 c2
        cases hi1 : inB N (F k 1) with
        | false =>
          have E := Lib.hid (HF.out k hlt (by rw [HP.out, HI.out, hi1]; rfl))
          have HI1 := Lib.hid hi1
          clear hi1
          go_wp2_with fail
          refine (isStop_any (some ⟨b, o, none⟩) m c N (F k 1) _).use fun w3 hb3 => ?_
          rw [HI1.out]
          have HB3 := Lib.hid (HBW.out _ (HB2.out.trans (hb3.mono HB2.out.size)))
          clear hb3 hbx0' hbx1' c0' c1' c2'
          go_wp2
          go_ret
          exact ⟨ret_bool E.out.symm, HB3.out⟩
        | true =>
          have HI1 := Lib.hid hi1
          clear hi1
          go_wp2_with fail
          refine (isStop_any (some ⟨b, o, none⟩) m c N (F k 1) _).use fun w3 hb3 => ?_
          rw [HI1.out]
          obtain ⟨hBw3, c0, c1, c2⟩ := HR.out w3 (HR2.out.trans (hb3.mono HR2.out.size))
          have HB3 := Lib.hid hBw3
          clear hb3 hbx0' hbx1' c0' c1' c2' hBw3
          by_cases he : F k 0 = F k 1
          · have hq := beq_t he
            have E := Lib.hid (HF.out k hlt (by rw [HP.out, HI.out, HI1.out, decide_eq_true he]; rfl))
            clear he
            go_wp2
            go_ret
            exact ⟨ret_bool E.out.symm, HBW.out _ HB3.out⟩
          have hq := beq_f he
          by_cases hl : F k 2 < 1
          · have d4 : decide (F k 2 < 1) = true := decide_eq_true hl
            have E := Lib.hid (HF.out k hlt (by rw [HP.out, HI.out, HI1.out, decide_eq_false he, decide_eq_false (show ¬ 1 ≤ F k 2 by omega)]; rfl))
            clear he
            go_wp2
            go_ret
            exact ⟨ret_bool E.out.symm, HBW.out _ HB3.out⟩
          have d4 : decide (F k 2 < 1) = false := decide_eq_false hl
          by_cases hh : 50 < F k 2
          · have d5 : decide (50 < F k 2) = true := decide_eq_true hh
            have E := Lib.hid (HF.out k hlt (by rw [HP.out, HI.out, HI1.out, decide_eq_false he, decide_eq_false (show ¬ F k 2 ≤ 50 by omega), Bool.and_false, Bool.and_false, Bool.and_false]))
            clear he
            go_wp2
            go_ret
            exact ⟨ret_bool E.out.symm, HBW.out _ HB3.out⟩
          have d5 : decide (50 < F k 2) = false := decide_eq_false hh
          have HN := Lib.hid (show rdP N F k = true by rw [HP.out, HI.out, HI1.out, decide_eq_false he, decide_eq_true (show 1 ≤ F k 2 by omega), decide_eq_true (show F k 2 ≤ 50 by omega)]; rfl)
          clear he
          go_wp2
          go_roundw
          case rel => exact ⟨k + 1, by omega, by go_num, HA.out.succ HN.out, HB3.out⟩
          case measure => simp [intOf]; omega
    · obtain rfl : k = m := by omega
      have E := Lib.hid (HT.out hA (by omega) (by omega) (by omega))
      clear hA
      go_wp2
      go_ret
      exact ⟨ret_bool E.out.symm, HBW.out _ hD⟩
end Go.Proofs.Ytclhamemlpbpiaa
