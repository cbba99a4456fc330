/- Ends. -/
import Derived.Test.YtbgekacfimgkeaaQn
namespace Go.Proofs.Ytbgekacfimgkeaa
open Go.RowKit

theorem okJ_min (n : Nat) (J : Nat → Nat → Int) : okJ (min n 10) J = okJ n J := by
  by_cases h : n ≤ 10
  · rw [Nat.min_eq_left h]
  · unfold okJ
    rw [decide_eq_false (show ¬ (1 ≤ min n 10 ∧ min n 10 ≤ 8) by omega), decide_eq_false (show ¬ (1 ≤ n ∧ n ≤ 8) by omega), Bool.false_and, Bool.false_and]

set_option maxHeartbeats 1000000 in
set_option maxRecDepth 1000000 in
theorem ends_bad (A B : Option Addr) (n c m c2 : Nat) (J : Nat → Nat → Int) (f : Nat → Int) (w : World) (h : Recs 4 w A n J) (hf : Ints w B m f) (hmc : m ≤ c2) (hn : n ≤ maxLen) (hm : m ≤ maxLen) (hbad : okJ n J = false ∨ ordB m f n = false) :
    Lr 17 #[.slice A n c, .slice B m c2] w (.tuple #[.slice none 0 0, .int .i64 2]) := by
  unfold Lr
  have H := Lib.hid h
  have HF := Lib.hid hf
  have hmm := Lib.hid hn
  have hmx := Lib.hid hm
  have HB := Lib.hid hbad
  clear h hf hn hm hbad
  go_enter Try.func17, Try.ntmps17
  go_wp2_with fail
  refine (valid_any A n c J w H.out hmm.out).use fun w1 hb1 => ?_
  have Hb1 := Lib.hid hb1
  cases hok : okJ n J with
  | false =>
    clear hok
    go_wp2
    go_returns
    exact ⟨rfl, Hb1.out⟩
  | true =>
    have HO := Lib.hid hok
    have hn18 := (okJ_iff.1 hok).1
    have HOr : Hid (ordB m f n = false) := Lib.hid (by
      rcases HB.out with h | h
      · rw [hok] at h
        cases h
      · exact h)
    clear hok
    go_wp2_with fail
    refine (isOrder_any B m c2 n f w1 (HF.out.keep Hb1.out) hn18 hmc hmx.out).use fun w2 hb2 => ?_
    have Hb2 := Lib.hid (Hb1.out.trans (hb2.mono Hb1.out.size))
    rw [HOr.out]
    clear hb1 hb2
    go_wp2
    go_returns
    exact ⟨rfl, Hb2.out⟩

set_option maxHeartbeats 1000000 in
set_option maxRecDepth 1000000 in
theorem ends_ok (A B : Option Addr) (n c m c2 : Nat) (J : Nat → Nat → Int) (f : Nat → Int) (w : World) (h : Recs 4 w A n J) (hf : Ints w B m f) (hmc : m ≤ c2) (hok : okJ n J = true) (ho : ordB m f n = true) :
    Calls Try.prog 17 #[.slice A n c, .slice B m c2] w fun e w' => ∃ g, e = .returned (.tuple #[.slice (some ⟨g, 0, none⟩) n n, .int .i64 0]) ∧ w.heap.size ≤ g ∧ RowI w' g n (eoF J f m) ∧ Below w.heap.size w w' := by
  have H := Lib.hid h
  have HF := Lib.hid hf
  have HO := Lib.hid hok
  have HOr := Lib.hid ho
  have hn := (okJ_iff.1 hok).1
  obtain ⟨hn1, hn8⟩ := hn
  have hmn : m = n := of_decide_eq_true (Bool.and_eq_true_iff.1 ho).1
  subst hmn
  clear h hok hf ho
  go_enter Try.func17, Try.ntmps17
  go_wp2_with fail
  refine (valid_any A m c J w H.out (by unfold maxLen; omega)).use fun w1 hb1 => ?_
  have Hb1 := Lib.hid hb1
  rw [HO.out]
  clear hb1
  go_wp2_with fail
  refine (isOrder_any B m c2 m f w1 (HF.out.keep Hb1.out) ⟨hn1, hn8⟩ hmc (by unfold maxLen; omega)).use fun w2 hb2 => ?_
  have Hb2 := Lib.hid (Hb1.out.trans (hb2.mono Hb1.out.size))
  rw [HOr.out]
  have hs2 : w.heap.size ≤ w2.heap.size := Hb2.out.size
  have hmk := mk_ints m (by omega) w2
  clear hb2
  go_wp2
  have hM := RowI.made w2 m
  have hB0 := Hb2.out.alloc hs2 (.cells (madeCells #[.int .i64 0] m) 3)
  clear hmk
  generalize w2.alloc (.cells (madeCells #[.int .i64 0] m) 3) = W0 at *
  go_loopw [7, 25] (fun t i wr => ∃ k : Nat, k ≤ m ∧ i = .int .i64 k ∧ t = .int .i64 (smT (fun a => J (f a).toNat 0) k) ∧ 0 ≤ smT (fun a => J (f a).toNat 0) k ∧ smT (fun a => J (f a).toNat 0) k ≤ 20 * k ∧ RowI wr w2.heap.size m (eoF J f k) ∧ Below w.heap.size w wr) (fun _ i _ => m - (intOf i).toNat)
  case atStart => exact ⟨0, Nat.zero_le _, rfl, rfl, Int.le_refl _, by simp [smT], hM, hB0⟩
  case round =>
    obtain ⟨k, hk, rfl, rfl, h0, h1, hR, hD⟩ := hrel
    have HR := Lib.hid hR
    have HD := Lib.hid hD
    clear hR hM hB0
    by_cases hlt : k < m
    · obtain ⟨b, o, rfl, hc⟩ := (HF.out.keep hD).at hlt
      have hfr := ord_rng HOr.out k hlt
      obtain ⟨j, hj, hjn⟩ : ∃ j : Nat, f k = (j : Int) ∧ j < m := ⟨(f k).toNat, by omega, by omega⟩
      obtain ⟨b2, o2, rfl, c0, c1, c2, c3⟩ := (H.out.keep hD).four hjn
      have hJ := (okJ_iff.1 HO.out).2 j hjn
      obtain ⟨⟨hJ1, hJ2⟩, -⟩ := hJ
      have hcj := HR.out.cell hjn
      have hfz := HR.out.frozen j
      have HS : Hid (smT (fun a => J (f a).toNat 0) (k + 1) = smT (fun a => J (f a).toNat 0) k + J j 0) := Lib.hid (by rw [smT, hj]; rfl)
      have HE : Hid (eoF J f (k + 1) = upd (eoF J f k) j (smT (fun a => J (f a).toNat 0) k + J j 0)) := Lib.hid (by rw [eoF, HS.out, hj]; rfl)
      have hk8 : (k : Int) < 8 := by omega
      rw [hj] at hc
      clear hj hfr
      generalize smT (fun a => J (f a).toNat 0) k = sm at *
      have HRs := Lib.hid (HR.out.set j (sm + J j 0))
      have HDs := Lib.hid (HD.out.setCell (p := ⟨w2.heap.size, j, none⟩) hs2 (.int .i64 (sm + J j 0)))
      generalize J j 0 = y at *
      go_wp2
      go_roundw
      case rel => exact ⟨k + 1, by omega, by go_num, by rw [HS.out], by rw [HS.out]; omega, by rw [HS.out]; push_cast; omega, by rw [HE.out]; exact HRs.out, HDs.out⟩
      case measure => simp [intOf]; omega
    · obtain rfl : m = k := by omega
      go_wp2
      go_returns
      exact ⟨_, rfl, hs2, HR.out, HD.out⟩
end Go.Proofs.Ytbgekacfimgkeaa
