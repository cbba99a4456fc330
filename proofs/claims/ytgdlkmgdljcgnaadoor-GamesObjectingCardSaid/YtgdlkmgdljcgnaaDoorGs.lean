/- The reference's Objects. -/
import Derived.Test.YtgdlkmgdljcgnaaDoorGq
namespace Go.Proofs.YtgdlkmgdljcgnaaDoor
open Go.RowKit

/-- By how much, as a fraction. -/
structure OvI (x a b : Int) : Prop where
  low : Low a b
  dvd : b ∣ wholeI
  cnt : cntF wholeI a b = x
  b_le : b ≤ 331776
  a_le : a.natAbs ≤ 200000000000
theorem OvI.zero : OvI 0 0 1 := ⟨by unfold Low; decide, Int.one_dvd _, rfl, by decide, by decide⟩
theorem cntF_neg (W n d : Int) : cntF W (-n) d = - cntF W n d := by unfold cntF; rw [Int.neg_mul]
theorem OvI.sub {F : Nat → Nat → Int} {n : Nat} (h : pyAll F n = true) (hn : n ≤ 4) {C : Nat → Int} {s : Nat} (hx : 0 ≤ C s ∧ C s ≤ 1000) :
    OvI (exS n C F s) (rN (pA F s n * 1 - C s * pB F s n) (pB F s n * 1)) (rD (pA F s n * 1 - C s * pB F s n) (pB F s n * 1)) := by
  have hi := pA_inv h s
  have h4 := hi.four hn
  have hb := hi.low.1
  have hne : pB F s n * 1 ≠ 0 := by omega
  obtain ⟨q1, q2⟩ := cnt_add (W := wholeI) (a := pA F s n) (b := pB F s n) (c := -(C s)) (d := 1) hb (by omega) hi.dvd (Int.one_dvd _)
  rw [Int.neg_mul, ← Int.sub_eq_add_neg] at q1 q2
  refine ⟨r_low hne, q1, ?_, ?_, ?_⟩
  · rw [q2, hi.cnt, cntF_neg, cnt_one]
    unfold exS
    omega
  · have := rD_le (a := pA F s n * 1 - C s * pB F s n) hne
    omega
  · have := rN_abs (a := pA F s n * 1 - C s * pB F s n) hne
    have e : (C s * pB F s n).natAbs ≤ 1000 * 331776 := by
      rw [Int.natAbs_mul]
      exact Nat.mul_le_mul (by omega) (by omega)
    omega
theorem OvI.less {x y a b c d : Int} (h : OvI x a b) (h' : OvI y c d) : lsB a b c d = decide (x < y) := by
  have := cnt_less (W := wholeI) (a := a) (b := b) (c := c) (d := d) whole_pos h.low.1 h'.low.1 h.dvd h'.dvd
  rw [h.cnt, h'.cnt] at this
  unfold lsB
  rw [Bool.eq_iff_iff, decide_eq_true_iff, decide_eq_true_iff, this]
theorem OvI.fits {x y a b c d : Int} (h : OvI x a b) (h' : OvI y c d) : (a * d).natAbs ≤ 4000000000000000000 ∧ (c * b).natAbs ≤ 4000000000000000000 := by
  have h1 := h.a_le
  have h2 := h.b_le
  have h3 := h'.a_le
  have h4 := h'.b_le
  have h5 := h.low.1
  have h6 := h'.low.1
  rw [Int.natAbs_mul, Int.natAbs_mul]
  have a1 : a.natAbs * d.natAbs ≤ 200000000000 * 331776 := Nat.mul_le_mul h1 (by omega)
  have a2 : c.natAbs * b.natAbs ≤ 200000000000 * 331776 := Nat.mul_le_mul h3 (by omega)
  omega
theorem sub_fits {F : Nat → Nat → Int} {n : Nat} (h : pyAll F n = true) (hn : n ≤ 4) {s : Nat} {x : Int} (hx : 0 ≤ x ∧ x ≤ 1000) :
    0 < pB F s n ∧ (pA F s n * 1).natAbs ≤ 2000000000000000000 ∧ (x * pB F s n).natAbs ≤ 2000000000000000000 ∧ (pB F s n * 1).natAbs ≤ 4000000000000000000 := by
  have hi := pA_inv h s
  have h4 := hi.four hn
  have hb := hi.low.1
  have e : (x * pB F s n).natAbs ≤ 1000 * 331776 := by
    rw [Int.natAbs_mul]
    exact Nat.mul_le_mul (by omega) (by omega)
  omega
/-- What the reference's Objects returns. -/
def orV (L n : Nat) (C : Nat → Int) (F : Nat → Nat → Int) : Value := if (obF (exS n C F) L).1 = 0 then .tuple #[.int .i64 0, .int .i64 4] else .tuple #[.int .i64 (obF (exS n C F) L).1, .int .i64 0]
set_option maxHeartbeats 2000000 in
set_option maxRecDepth 1000000 in
theorem refObjects_any (A B : Option Addr) (L c n c' : Nat) (C : Nat → Int) (F : Nat → Nat → Int) (w : World) (h : Ints w A L C) (hf : Recs 2 w B n F) (hn : n ≤ 4) (hok : okC L C = true) (hp : pyAll F n = true) :
    Lr 44 #[.slice A L c, .slice B n c'] w (orV L n C F) := by
  unfold Lr
  have hL16 : L ≤ 16 := by have := (okC_iff.1 hok).1; omega
  have H := Lib.hid h
  have HF := Lib.hid hf
  have HP := Lib.hid hp
  have HC := Lib.hid (okC_iff.1 hok).2.2
  have HO : Hid (∀ m, obF (exS n C F) (m + 1) = if (obF (exS n C F) m).2 < exS n C F m then ((m : Int), exS n C F m) else obF (exS n C F) m) := Lib.hid (fun _ => rfl)
  have HV : Hid (orV L n C F = if (obF (exS n C F) L).1 = 0 then .tuple #[.int .i64 0, .int .i64 4] else .tuple #[.int .i64 (obF (exS n C F) L).1, .int .i64 0]) := Lib.hid rfl
  clear h hf hp hok
  go_enter Tryd.func44, Tryd.ntmps44
  go_wp2_with fail
  refine (wholeR_any 0 _).use fun w1 hb1 => ?_
  have HY1 := Lib.hid (BxF.new w1 0 1)
  have HB2 := Lib.hid (hb1.alloc hb1.size (.cells #[.int .i64 0, .int .i64 1] 34))
  have hG : w.heap.size ≤ w1.heap.size := hb1.size
  clear hb1
  go_wp2
  obtain ⟨G, hGe⟩ : ∃ G, G = w1.heap.size := ⟨_, rfl⟩
  rw [← hGe] at HY1 hG ⊢
  clear hGe
  generalize w1.alloc (.cells #[.int .i64 0, .int .i64 1] 34) = W1 at *
  go_loopw [6, 14] (fun be i wr => ∃ (m : Nat) (a b : Int), m ≤ L ∧ i = .int .i64 m ∧ be = .int .i64 (obF (exS n C F) m).1 ∧ OvI (obF (exS n C F) m).2 a b ∧ BxF wr G a b ∧ Below w.heap.size w wr) (fun _ i _ => L - (intOf i).toNat)
  case atStart => exact ⟨0, 0, 1, Nat.zero_le _, rfl, rfl, OvI.zero, HY1.out, HB2.out⟩
  case round =>
    obtain ⟨m, a, b, hm, rfl, rfl, hI, hY, hD⟩ := hrel
    have HI := Lib.hid hI
    have HY := Lib.hid hY
    have HD := Lib.hid hD
    clear hI hY
    by_cases hlt : m < L
    · obtain ⟨g, o, rfl, hc⟩ := (H.out.keep hD).at hlt
      have hx := HC.out m hlt
      have HOm := Lib.hid (HO.out m)
      have HPs := Lib.hid (fun (w2 : World) (hb : Below w.heap.size w w2) => pays_lr B n c' m F w2 (HF.out.keep hb) hn HP.out)
      obtain ⟨s1, s2, s3, s4⟩ := sub_fits (s := m) HP.out hn hx
      have HSub := Lib.hid (fun w => subF_any (pA F m n) (pB F m n) (C m) 1 s1 (by omega) s2 s3 s4 w)
      have HOv := Lib.hid (OvI.sub HP.out hn hx)
      generalize rN (pA F m n * 1 - C m * pB F m n) (pB F m n * 1) = x at *
      generalize rD (pA F m n * 1 - C m * pB F m n) (pB F m n * 1) = y at *
      have hfit := HI.out.fits HOv.out
      have HLs := Lib.hid (fun w => lessF_any a b x y hfit.1 hfit.2 w)
      have HLe := Lib.hid (HI.out.less HOv.out)
      generalize pA F m n = pa at *
      generalize pB F m n = pb at *
      generalize C m = cm at *
      clear hfit hD s1 s2 s3 s4
      generalize exS n C F m = ex at *
      go_wp2_with fail
      refine (HPs.out _ HD.out).use fun w3 hb3 => ?_
      have HD3 := Lib.hid (HD.out.trans (hb3.mono HD.out.size))
      have HY3 := Lib.hid (HY.out.keep hb3)
      clear hb3
      go_wp2_with fail
      refine (wholeR_any cm _).use fun w4 hb4 => ?_
      have HD4 := Lib.hid (HD3.out.trans (hb4.mono HD3.out.size))
      have HY4 := Lib.hid (HY3.out.keep hb4)
      clear hb4
      go_wp2_with fail
      refine (HSub.out w4).use fun w5 hb5 => ?_
      have HD5 := Lib.hid ((HD4.out.trans (hb5.mono HD4.out.size)).alloc (HD4.out.trans (hb5.mono HD4.out.size)).size (.cells #[.int .i64 x, .int .i64 y] 34))
      have HY5 := Lib.hid ((HY4.out.keep hb5).alloc (.cells #[.int .i64 x, .int .i64 y] 34))
      have HZ5 := Lib.hid (BxF.new w5 x y)
      have hGw : G < w5.heap.size := (HY4.out.keep hb5).lt
      have y0 := HY5.out.c0
      have y1 := HY5.out.c1
      clear hb5
      go_wp2_with fail
      refine (HLs.out _).use fun w6 hb6 => ?_
      have HD6 := Lib.hid (HD5.out.trans (hb6.mono HD5.out.size))
      have HY6 := Lib.hid (HY5.out.keep hb6)
      have HZ6 := Lib.hid (HZ5.out.keep hb6)
      clear hb6 y0 y1
      rw [HLe.out]
      by_cases hlt2 : (obF (exS n C F) m).2 < ex
      · have HR : Hid (obF (exS n C F) (m + 1) = ((m : Int), ex)) := Lib.hid (by rw [HOm.out, if_pos hlt2])
        rw [decide_eq_true hlt2]
        have y0 := HY6.out.c0
        have y1 := HY6.out.c1
        have f0 := HY6.out.frozen 0
        have f1 := HY6.out.frozen 1
        have z0 := HZ6.out.c0
        have z1 := HZ6.out.c1
        clear hlt2
        go_wp2
        go_region
        go_wp2
        go_roundw
        case rel => exact ⟨m + 1, x, y, by omega, by go_num, by rw [HR.out], by rw [HR.out]; exact HOv.out, (HY6.out.dn (Dn.refl _).drew).set x y, (HD6.out.drew.setCell (p := ⟨G, 0, none⟩) hG _).setCell (p := ⟨G, 1, none⟩) hG _⟩
        case measure => simp [intOf]; omega
      · have HR : Hid (obF (exS n C F) (m + 1) = obF (exS n C F) m) := Lib.hid (by rw [HOm.out, if_neg hlt2])
        rw [decide_eq_false hlt2]
        clear hlt2
        go_wp2
        go_roundw
        case rel => exact ⟨m + 1, a, b, by omega, by go_num, by rw [HR.out], by rw [HR.out]; exact HI.out, HY6.out, HD6.out⟩
        case measure => simp [intOf]; omega
    · obtain rfl : m = L := by omega
      generalize (obF (exS n C F) m).1 = z at *
      by_cases hz : z = 0
      · have HS3 : Hid (orV m n C F = .tuple #[.int .i64 0, .int .i64 4]) := Lib.hid (by rw [HV.out, if_pos hz])
        have hzz := beq_t hz
        clear hz
        go_wp2
        go_returns
        exact ⟨by rw [HS3.out]; rfl, HD.out⟩
      · have HS3 : Hid (orV m n C F = .tuple #[.int .i64 z, .int .i64 0]) := Lib.hid (by rw [HV.out, if_neg hz])
        have hzz := beq_f hz
        clear hz
        go_wp2
        go_returns
        exact ⟨by rw [HS3.out]; rfl, HD.out⟩
end Go.Proofs.YtgdlkmgdljcgnaaDoor
