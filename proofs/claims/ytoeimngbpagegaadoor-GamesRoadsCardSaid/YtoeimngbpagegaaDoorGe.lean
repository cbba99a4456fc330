/- The reference's fractions: Add, Sub, Mul, Less, Lowest, whole. -/
import Derived.Test.YtoeimngbpagegaaDoorGd
namespace Go.Proofs.YtoeimngbpagegaaDoor
open Go.RowKit

theorem alloc_two (W : World) : (W.alloc (.cells #[.int .i64 0, .int .i64 0] 48)).cell? ⟨W.heap.size, 0, none⟩ = some (.int .i64 0) ∧ (W.alloc (.cells #[.int .i64 0, .int .i64 0] 48)).cell? ⟨W.heap.size, 1, none⟩ = some (.int .i64 0) ∧ ∀ o, (W.alloc (.cells #[.int .i64 0, .int .i64 0] 48)).frozen? ⟨W.heap.size, o, none⟩ = false :=
  ⟨by simp [World.cell?_alloc_at], by simp [World.cell?_alloc_at], fun o => by simp [World.frozen?_alloc_at]⟩
set_option maxHeartbeats 1000000 in
set_option maxRecDepth 1000000 in
theorem addF_any (a b c d : Int) (hb : 0 < b) (hd : 0 < d) (h1 : (a * d).natAbs ≤ 2000000000000000000) (h2 : (c * b).natAbs ≤ 2000000000000000000) (hbd : (b * d).natAbs ≤ 4000000000000000000) (w : World) :
    Lr 50 #[.agg #[.int .i64 a, .int .i64 b], .agg #[.int .i64 c, .int .i64 d]] w (.agg #[.int .i64 (rN (a * d + c * b) (b * d)), .int .i64 (rD (a * d + c * b) (b * d))]) := by
  unfold Lr
  have w0 : wrap64 (a * d) = a * d := IntWalk.wrap64_in _ (by omega)
  have w1 : wrap64 (c * b) = c * b := IntWalk.wrap64_in _ (by omega)
  have w2 : wrap64 (a * d + c * b) = a * d + c * b := IntWalk.wrap64_in _ (by omega)
  have wbd : wrap64 (b * d) = b * d := IntWalk.wrap64_in _ (by omega)
  have hp : 0 < b * d := Int.mul_pos hb hd
  have HO := Lib.hid (fun w => ofF_any (a * d + c * b) (b * d) hp (by omega) hbd w)
  have hB1 := (Below.refl w.heap.size w).alloc (Nat.le_refl _) (.cells #[.int .i64 a, .int .i64 b] 48)
  have hB2 := hB1.alloc hB1.size (.cells #[.int .i64 c, .int .i64 d] 48)
  have hB3 := hB2.alloc hB2.size (.cells #[.int .i64 0, .int .i64 0] 48)
  obtain ⟨hca, hcb, hfr⟩ := alloc_two ((w.alloc (.cells #[.int .i64 a, .int .i64 b] 48)).alloc (.cells #[.int .i64 c, .int .i64 d] 48))
  simp only [World.size_alloc] at hca hcb hfr
  have HB3 := Lib.hid hB3
  have HCA := Lib.hid hca
  have HCB := Lib.hid hcb
  have HFR := Lib.hid hfr
  obtain ⟨N, hN⟩ : ∃ N, rN (a * d + c * b) (b * d) = N := ⟨_, rfl⟩
  obtain ⟨D, hDn⟩ : ∃ D, rD (a * d + c * b) (b * d) = D := ⟨_, rfl⟩
  have HN := Lib.hid hN
  have HDn := Lib.hid hDn
  clear hB1 hB2 hB3 hca hcb hfr hN hDn hp
  go_enter Tryd.func50, Tryd.ntmps50
  go_wp2_with fail
  refine (HO.out _).mono ?_
  rintro e w1 ⟨rfl, hd1⟩
  rw [HN.out, HDn.out]
  generalize (((w.alloc (.cells #[.int .i64 a, .int .i64 b] 48)).alloc (.cells #[.int .i64 c, .int .i64 d] 48)).alloc (.cells #[.int .i64 0, .int .i64 0] 48)) = W0 at *
  have hc0 : w1.cell? ⟨w.heap.size + 1 + 1, 0, none⟩ = some (.int .i64 0) := (hd1.cell (World.block_lt_of_cell? _ _ HCA.out)).trans HCA.out
  have hc1 : w1.cell? ⟨w.heap.size + 1 + 1, 1, none⟩ = some (.int .i64 0) := (hd1.cell (World.block_lt_of_cell? _ _ HCB.out)).trans HCB.out
  have hf0 : w1.frozen? ⟨w.heap.size + 1 + 1, 0, none⟩ = false := (hd1.frozen (p := ⟨w.heap.size + 1 + 1, 0, none⟩) (World.block_lt_of_cell? _ _ HCA.out)).trans (HFR.out 0)
  have hf1 : w1.frozen? ⟨w.heap.size + 1 + 1, 1, none⟩ = false := (hd1.frozen (p := ⟨w.heap.size + 1 + 1, 1, none⟩) (World.block_lt_of_cell? _ _ HCB.out)).trans (HFR.out 1)
  obtain ⟨hs0, hs1⟩ := two_set hc0 hc1 (.int .i64 N) (.int .i64 D)
  have HBl := Lib.hid (HB3.out.trans (hd1.mono HB3.out.size))
  clear hd1
  go_wp2
  refine bodyPost_ret (v := .agg #[.int .i64 N, .int .i64 D]) (by simp [results, Tryd.results50, go_sem, hs0, hs1]) rfl ?_
  exact ⟨by rw [HN.out, HDn.out], (HBl.out.setCell (p := ⟨w.heap.size + 1 + 1, 0, none⟩) (by simp; omega) _).setCell (p := ⟨w.heap.size + 1 + 1, 1, none⟩) (by simp; omega) _⟩
set_option maxHeartbeats 1000000 in
set_option maxRecDepth 1000000 in
theorem subF_any (a b c d : Int) (hb : 0 < b) (hd : 0 < d) (h1 : (a * d).natAbs ≤ 2000000000000000000) (h2 : (c * b).natAbs ≤ 2000000000000000000) (hbd : (b * d).natAbs ≤ 4000000000000000000) (w : World) :
    Lr 76 #[.agg #[.int .i64 a, .int .i64 b], .agg #[.int .i64 c, .int .i64 d]] w (.agg #[.int .i64 (rN (a * d - c * b) (b * d)), .int .i64 (rD (a * d - c * b) (b * d))]) := by
  unfold Lr
  have w0 : wrap64 (a * d) = a * d := IntWalk.wrap64_in _ (by omega)
  have w1 : wrap64 (c * b) = c * b := IntWalk.wrap64_in _ (by omega)
  have w2 : wrap64 (a * d - c * b) = a * d - c * b := IntWalk.wrap64_in _ (by omega)
  have wbd : wrap64 (b * d) = b * d := IntWalk.wrap64_in _ (by omega)
  have hp : 0 < b * d := Int.mul_pos hb hd
  have HO := Lib.hid (fun w => ofF_any (a * d - c * b) (b * d) hp (by omega) hbd w)
  have hB1 := (Below.refl w.heap.size w).alloc (Nat.le_refl _) (.cells #[.int .i64 a, .int .i64 b] 48)
  have hB2 := hB1.alloc hB1.size (.cells #[.int .i64 c, .int .i64 d] 48)
  have hB3 := hB2.alloc hB2.size (.cells #[.int .i64 0, .int .i64 0] 48)
  obtain ⟨hca, hcb, hfr⟩ := alloc_two ((w.alloc (.cells #[.int .i64 a, .int .i64 b] 48)).alloc (.cells #[.int .i64 c, .int .i64 d] 48))
  simp only [World.size_alloc] at hca hcb hfr
  have HB3 := Lib.hid hB3
  have HCA := Lib.hid hca
  have HCB := Lib.hid hcb
  have HFR := Lib.hid hfr
  obtain ⟨N, hN⟩ : ∃ N, rN (a * d - c * b) (b * d) = N := ⟨_, rfl⟩
  obtain ⟨D, hDn⟩ : ∃ D, rD (a * d - c * b) (b * d) = D := ⟨_, rfl⟩
  have HN := Lib.hid hN
  have HDn := Lib.hid hDn
  clear hB1 hB2 hB3 hca hcb hfr hN hDn hp
  go_enter Tryd.func76, Tryd.ntmps76
  go_wp2_with fail
  refine (HO.out _).mono ?_
  rintro e w1 ⟨rfl, hd1⟩
  rw [HN.out, HDn.out]
  generalize (((w.alloc (.cells #[.int .i64 a, .int .i64 b] 48)).alloc (.cells #[.int .i64 c, .int .i64 d] 48)).alloc (.cells #[.int .i64 0, .int .i64 0] 48)) = W0 at *
  have hc0 : w1.cell? ⟨w.heap.size + 1 + 1, 0, none⟩ = some (.int .i64 0) := (hd1.cell (World.block_lt_of_cell? _ _ HCA.out)).trans HCA.out
  have hc1 : w1.cell? ⟨w.heap.size + 1 + 1, 1, none⟩ = some (.int .i64 0) := (hd1.cell (World.block_lt_of_cell? _ _ HCB.out)).trans HCB.out
  have hf0 : w1.frozen? ⟨w.heap.size + 1 + 1, 0, none⟩ = false := (hd1.frozen (p := ⟨w.heap.size + 1 + 1, 0, none⟩) (World.block_lt_of_cell? _ _ HCA.out)).trans (HFR.out 0)
  have hf1 : w1.frozen? ⟨w.heap.size + 1 + 1, 1, none⟩ = false := (hd1.frozen (p := ⟨w.heap.size + 1 + 1, 1, none⟩) (World.block_lt_of_cell? _ _ HCB.out)).trans (HFR.out 1)
  obtain ⟨hs0, hs1⟩ := two_set hc0 hc1 (.int .i64 N) (.int .i64 D)
  have HBl := Lib.hid (HB3.out.trans (hd1.mono HB3.out.size))
  clear hd1
  go_wp2
  refine bodyPost_ret (v := .agg #[.int .i64 N, .int .i64 D]) (by simp [results, Tryd.results76, go_sem, hs0, hs1]) rfl ?_
  exact ⟨by rw [HN.out, HDn.out], (HBl.out.setCell (p := ⟨w.heap.size + 1 + 1, 0, none⟩) (by simp; omega) _).setCell (p := ⟨w.heap.size + 1 + 1, 1, none⟩) (by simp; omega) _⟩
set_option maxHeartbeats 1000000 in
set_option maxRecDepth 1000000 in
theorem mulF_any (a b c d : Int) (hb : 0 < b) (hd : 0 < d) (h1 : (a * c).natAbs ≤ 4000000000000000000) (hbd : (b * d).natAbs ≤ 4000000000000000000) (w : World) :
    Lr 55 #[.agg #[.int .i64 a, .int .i64 b], .agg #[.int .i64 c, .int .i64 d]] w (.agg #[.int .i64 (rN (a * c) (b * d)), .int .i64 (rD (a * c) (b * d))]) := by
  unfold Lr
  have w0 : wrap64 (a * c) = a * c := IntWalk.wrap64_in _ (by omega)
  have wbd : wrap64 (b * d) = b * d := IntWalk.wrap64_in _ (by omega)
  have hp : 0 < b * d := Int.mul_pos hb hd
  have HO := Lib.hid (fun w => ofF_any (a * c) (b * d) hp (by omega) hbd w)
  have hB1 := (Below.refl w.heap.size w).alloc (Nat.le_refl _) (.cells #[.int .i64 a, .int .i64 b] 48)
  have hB2 := hB1.alloc hB1.size (.cells #[.int .i64 c, .int .i64 d] 48)
  have hB3 := hB2.alloc hB2.size (.cells #[.int .i64 0, .int .i64 0] 48)
  obtain ⟨hca, hcb, hfr⟩ := alloc_two ((w.alloc (.cells #[.int .i64 a, .int .i64 b] 48)).alloc (.cells #[.int .i64 c, .int .i64 d] 48))
  simp only [World.size_alloc] at hca hcb hfr
  have HB3 := Lib.hid hB3
  have HCA := Lib.hid hca
  have HCB := Lib.hid hcb
  have HFR := Lib.hid hfr
  obtain ⟨N, hN⟩ : ∃ N, rN (a * c) (b * d) = N := ⟨_, rfl⟩
  obtain ⟨D, hDn⟩ : ∃ D, rD (a * c) (b * d) = D := ⟨_, rfl⟩
  have HN := Lib.hid hN
  have HDn := Lib.hid hDn
  clear hB1 hB2 hB3 hca hcb hfr hN hDn hp
  go_enter Tryd.func55, Tryd.ntmps55
  go_wp2_with fail
  refine (HO.out _).mono ?_
  rintro e w1 ⟨rfl, hd1⟩
  rw [HN.out, HDn.out]
  generalize (((w.alloc (.cells #[.int .i64 a, .int .i64 b] 48)).alloc (.cells #[.int .i64 c, .int .i64 d] 48)).alloc (.cells #[.int .i64 0, .int .i64 0] 48)) = W0 at *
  have hc0 : w1.cell? ⟨w.heap.size + 1 + 1, 0, none⟩ = some (.int .i64 0) := (hd1.cell (World.block_lt_of_cell? _ _ HCA.out)).trans HCA.out
  have hc1 : w1.cell? ⟨w.heap.size + 1 + 1, 1, none⟩ = some (.int .i64 0) := (hd1.cell (World.block_lt_of_cell? _ _ HCB.out)).trans HCB.out
  have hf0 : w1.frozen? ⟨w.heap.size + 1 + 1, 0, none⟩ = false := (hd1.frozen (p := ⟨w.heap.size + 1 + 1, 0, none⟩) (World.block_lt_of_cell? _ _ HCA.out)).trans (HFR.out 0)
  have hf1 : w1.frozen? ⟨w.heap.size + 1 + 1, 1, none⟩ = false := (hd1.frozen (p := ⟨w.heap.size + 1 + 1, 1, none⟩) (World.block_lt_of_cell? _ _ HCB.out)).trans (HFR.out 1)
  obtain ⟨hs0, hs1⟩ := two_set hc0 hc1 (.int .i64 N) (.int .i64 D)
  have HBl := Lib.hid (HB3.out.trans (hd1.mono HB3.out.size))
  clear hd1
  go_wp2
  refine bodyPost_ret (v := .agg #[.int .i64 N, .int .i64 D]) (by simp [results, Tryd.results55, go_sem, hs0, hs1]) rfl ?_
  exact ⟨by rw [HN.out, HDn.out], (HBl.out.setCell (p := ⟨w.heap.size + 1 + 1, 0, none⟩) (by simp; omega) _).setCell (p := ⟨w.heap.size + 1 + 1, 1, none⟩) (by simp; omega) _⟩
/-- One is less than another. -/
def lsB (a b c d : Int) : Bool := decide (a * d < c * b)
set_option maxHeartbeats 1000000 in
set_option maxRecDepth 1000000 in
theorem lessF_any (a b c d : Int) (h1 : (a * d).natAbs ≤ 4000000000000000000) (h2 : (c * b).natAbs ≤ 4000000000000000000) (w : World) :
    Lr 54 #[.agg #[.int .i64 a, .int .i64 b], .agg #[.int .i64 c, .int .i64 d]] w (.bool (lsB a b c d)) := by
  unfold Lr
  have w1 : wrap64 (a * d) = a * d := IntWalk.wrap64_in _ (by omega)
  have w2 : wrap64 (c * b) = c * b := IntWalk.wrap64_in _ (by omega)
  have hB1 := (Below.refl w.heap.size w).alloc (Nat.le_refl _) (.cells #[.int .i64 a, .int .i64 b] 48)
  have HB := Lib.hid (hB1.alloc hB1.size (.cells #[.int .i64 c, .int .i64 d] 48))
  have HL : Hid (lsB a b c d = decide (a * d < c * b)) := Lib.hid rfl
  clear h1 h2 hB1
  go_enter Tryd.func54, Tryd.ntmps54
  go_wp2
  go_ret
  exact ⟨ret_bool HL.out.symm, HB.out⟩
/-- In lowest terms. -/
def lwB (n d : Int) : Bool := decide (1 ≤ d) && (decide (-4611686018427387904 < n) && decide (gI n d = 1))
theorem lwB_iff {n d : Int} : lwB n d = true ↔ Low n d ∧ -4611686018427387904 < n := by
  unfold lwB Low gI
  simp only [Bool.and_eq_true, decide_eq_true_eq]
  constructor
  · rintro ⟨h1, h2, h3⟩
    exact ⟨⟨by omega, by omega⟩, h2⟩
  · rintro ⟨⟨h1, h2⟩, h3⟩
    exact ⟨by omega, h3, by omega⟩
set_option maxHeartbeats 1000000 in
set_option maxRecDepth 1000000 in
theorem lowest_any (n d : Int) (w : World) :
    Lr 48 #[.agg #[.int .i64 n, .int .i64 d]] w (.bool (lwB n d)) := by
  unfold Lr
  have HB := Lib.hid ((Below.refl w.heap.size w).alloc (Nat.le_refl _) (.cells #[.int .i64 n, .int .i64 d] 48))
  have HL : Hid (lwB n d = (decide (1 ≤ d) && (decide (-4611686018427387904 < n) && decide (gI n d = 1)))) := Lib.hid rfl
  by_cases h1 : 1 ≤ d
  · have hd1 : decide (1 ≤ d) = true := decide_eq_true h1
    by_cases h2 : -4611686018427387904 < n
    · have hd2 : decide (-4611686018427387904 < n) = true := decide_eq_true h2
      have HE : Hid (lwB n d = decide (gI n d = 1)) := Lib.hid (by rw [HL.out, hd1, hd2]; rfl)
      have HG : Hid (∀ x : Int, x = n ∨ x = -n → gI x d = gI n d) := Lib.hid (fun x hx => by
        rcases hx with rfl | rfl
        · rfl
        · unfold gI; simp [Int.gcd, Int.natAbs_neg])
      by_cases hs : 0 ≤ n
      · have hmax : wrap64 (-n) ≤ n := by unfold wrap64; omega
        have HGc := Lib.hid (fun w => gcd_any n d hs (by omega) w)
        generalize gI n d = g at *
        go_enter Tryd.func48, Tryd.ntmps48
        go_wp2_with fail
        refine (HGc.out _).mono ?_
        rintro e w1 ⟨rfl, hd⟩
        have HD := Lib.hid (HB.out.trans (hd.below _))
        clear hd
        by_cases hg : g = 1
        · have hq := beq_t hg
          have HF : Hid (lwB n d = true) := Lib.hid (by rw [HE.out, decide_eq_true hg])
          clear hg
          go_wp2
          go_ret
          exact ⟨ret_bool HF.out.symm, HD.out⟩
        · have hq := beq_f hg
          have HF : Hid (lwB n d = false) := Lib.hid (by rw [HE.out, decide_eq_false hg])
          clear hg
          go_wp2
          go_ret
          exact ⟨ret_bool HF.out.symm, HD.out⟩
      · have hmax : n < -n := by omega
        have HGc := Lib.hid (fun w => gcd_any (-n) d (by omega) (by omega) w)
        have hgn := HG.out (-n) (.inr rfl)
        have HGn := Lib.hid hgn
        clear hgn
        have ha2 : n < 0 := by omega
        obtain ⟨g, hg0⟩ : ∃ g, gI n d = g := ⟨_, rfl⟩
        have HG0 := Lib.hid hg0
        clear hg0 hs
        go_enter Tryd.func48, Tryd.ntmps48
        go_wp2_with fail
        refine (HGc.out _).mono ?_
        rintro e w1 ⟨rfl, hd⟩
        rw [HGn.out, HG0.out]
        have HD := Lib.hid (HB.out.trans (hd.below _))
        clear hd
        by_cases hg : g = 1
        · have hq := beq_t hg
          have HF : Hid (lwB n d = true) := Lib.hid (by rw [HE.out, HG0.out, decide_eq_true hg])
          clear hg
          go_wp2
          go_ret
          exact ⟨ret_bool HF.out.symm, HD.out⟩
        · have hq := beq_f hg
          have HF : Hid (lwB n d = false) := Lib.hid (by rw [HE.out, HG0.out, decide_eq_false hg])
          clear hg
          go_wp2
          go_ret
          exact ⟨ret_bool HF.out.symm, HD.out⟩
    · have hd2 : decide (-4611686018427387904 < n) = false := decide_eq_false h2
      have HF : Hid (lwB n d = false) := Lib.hid (by rw [HL.out, hd1, hd2]; rfl)
      go_enter Tryd.func48, Tryd.ntmps48
      go_wp2
      go_ret
      exact ⟨ret_bool HF.out.symm, HB.out⟩
  · have hd1 : decide (1 ≤ d) = false := decide_eq_false h1
    have HF : Hid (lwB n d = false) := Lib.hid (by rw [HL.out, hd1]; rfl)
    go_enter Tryd.func48, Tryd.ntmps48
    go_wp2
    go_ret
    exact ⟨ret_bool HF.out.symm, HB.out⟩
set_option maxHeartbeats 1000000 in
theorem wholeR_any (n : Int) (w : World) : Lr 65 #[.int .i64 n] w (.agg #[.int .i64 n, .int .i64 1]) := by
  unfold Lr
  go_enter Tryd.func65, Tryd.ntmps65
  go_wp2
  go_returns
  exact ⟨rfl, (Below.refl _ w).alloc (Nat.le_refl _) _⟩
set_option maxHeartbeats 1000000 in
theorem wholeL_any (n : Int) (w : World) : Lr 49 #[.int .i64 n] w (.agg #[.int .i64 n, .int .i64 1]) := by
  unfold Lr
  go_enter Tryd.func49, Tryd.ntmps49
  go_wp2
  go_returns
  exact ⟨rfl, (Below.refl _ w).alloc (Nat.le_refl _) _⟩
end Go.Proofs.YtoeimngbpagegaaDoor
