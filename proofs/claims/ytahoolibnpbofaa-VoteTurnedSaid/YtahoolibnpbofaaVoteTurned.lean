/- The law VoteTurned, walked. -/
import Derived.Test.YtahoolibnpbofaaTg
namespace Go.Proofs.Ytahoolibnpbofaa
open Go.RowKit

theorem revT_zero (L : Nat → Nat) (v : Nat → Nat → Int) : revT L v 0 = v := by
  funext i
  unfold revT
  rw [if_neg (by omega)]
theorem revT_next (L : Nat → Nat) (v : Nat → Nat → Int) (k : Nat) : (fun i => if i = k then revV L (revT L v k) k else revT L v k i) = revT L v (k + 1) := by
  funext i
  by_cases e : i = k
  · rw [if_pos e, e]
    unfold revT
    rw [if_pos (by omega)]
    funext g
    unfold revV
    show (if k < k then _ else v k) _ = _
    rw [if_neg (by omega)]
  · rw [if_neg e]
    unfold revT
    by_cases h : i < k
    · rw [if_pos h, if_pos (by omega)]
    · rw [if_neg h, if_neg (by omega)]
theorem revT_end {w : World} {base n : Nat} {x : Value} {L : Nat → Nat} {v : Nat → Nat → Int} {vals : List Value} (h : OwnSv w base x n L (revT L v n) vals) : OwnSv w base x n L (revV L v) vals := h.congr (fun i g hi _ => by unfold revT; rw [if_pos hi])
theorem fewSv (A : Option Addr) (n c : Nat) (L : Nat → Nat) (v : Nat → Nat → Int) (w : World) (h : ArgR w A n c L v) :
    Calls Try.prog 14 #[.slice A n c] w fun e w' => ∃ A' k c' vals, e = .returned (.slice A' k c') ∧ k = min n 11 ∧ OwnSv w' w.heap.size (.slice A' k c') k (fun i => min (L i) 11) v vals ∧ Below w.heap.size w w' := by
  refine (fewS_any A n c L v w h).mono ?_
  rintro e w' ⟨x, rfl, ⟨vals, h1, h2, h3, h4⟩, hb⟩
  obtain ⟨A', c', rfl, -⟩ := (show OwnR w' w.heap.size x _ _ _ from ⟨vals, h1, h2, h3⟩).rows
  exact ⟨A', _, c', vals, rfl, rfl, ⟨h1, h2, h3, h4⟩, hb⟩
theorem revV_few (L : Nat → Nat) (v : Nat → Nat → Int) {n : Nat} (hok : okBal n L v = true) : ∀ i, i < n → revV (fun i => min (L i) 11) v i = revV L v i := by
  obtain ⟨e1, e2, e3⟩ := bal_few hok
  intro i hi
  unfold revV
  simp only [e3 i hi]
theorem ord_few (c m : Nat) (o : Nat → Int) (hc : c ≤ 5) : ordB c (min m 11) o = ordB c m o := by
  rw [Bool.eq_iff_iff, ordB_iff, ordB_iff]
  constructor
  · rintro ⟨h1, h2⟩
    exact ⟨by omega, h2⟩
  · rintro ⟨h1, h2⟩
    exact ⟨by omega, h2⟩
theorem mrgT_congr {c a b : Nat} {v v' : Nat → Nat → Int} (n : Nat) (h : ∀ i, i < n → v i = v' i) : mrg v c a b n = mrg v' c a b n := mrg_congr n (fun i hi x => by rw [h i hi])

theorem mrg_turnF {n : Nat} {L : Nat → Nat} {v : Nat → Nat → Int} (hok : okBal n L v = true) {a b : Nat} (ha : a < L 0) (hb : b < L 0) : mAll (revV (fun i => min (L i) 11) v) (L 0) n (5 * a + b) = - mrg v (L 0) a b n := by
  obtain ⟨h1, h2, h3⟩ := okBal_iff.1 hok
  have hr := okBal_iff.1 ((okBal_rev n L v).trans hok)
  rw [mAll_at (by omega) ha hb n (fun i hi => by rw [revV_few L v hok i hi]; exact (hr.2.2 i hi).2), mrgT_congr n (revV_few L v hok), mrg_turn hok ha hb]
theorem MarginsRev {n : Nat} {L : Nat → Nat} {v : Nat → Nat → Int} {A : Option Addr} {k cA : Nat} {w : World} (h : RowsK w A k (fun i => min (L i) 11) (revV (fun i => min (L i) 11) v)) (hk : k = min n 11) (hA : k ≤ cA) (hok : okBal n L v = true) :
    Calls Try.prog 13 #[.slice A k cA] w fun e w' => ∃ A' c', e = .returned (.tuple #[.slice A' (L 0) c', .int .i64 0]) ∧ Rows2 w' A' (L 0) (fun _ => L 0) (fun a b => - mrg v (L 0) a b n) ∧ Below w.heap.size w w' := by
  subst hk
  obtain ⟨e1, e2, e3⟩ := bal_few hok
  refine (Margins_ok A (min n 11) cA (fun i => min (L i) 11) (revV (fun i => min (L i) 11) v) w h (by rw [okBal_rev, okBal_few]; exact hok) hA).mono ?_
  rintro e w' ⟨x, rfl, hx, hb⟩
  obtain ⟨A', c', rfl, hr, -⟩ := hx.rows
  refine ⟨A', c', by simp only [e2], ?_, hb⟩
  have hr' : Rows2 w' A' (L 0) (fun _ => L 0) (fun a b => mAll (revV (fun i => min (L i) 11) v) (L 0) n (5 * a + b)) := by
    have := hr
    simp only [e1, e2] at this
    exact this
  exact hr'.congrV (fun a b ha hb => mrg_turnF hok ha hb)
theorem disR {n m : Nat} {L : Nat → Nat} {v : Nat → Nat → Int} {o : Nat → Int} (hok : okBal n L v = true) (ho : ordB (L 0) m o = true) :
    disS n (mAll (revV (fun i => min (L i) 11) v) (L 0) n) o (L 0) = disS n (mAll v (L 0) n) (fun k => o (m - 1 - k)) (L 0) := by
  obtain ⟨h1, h2, h3⟩ := okBal_iff.1 hok
  obtain ⟨rfl, hO⟩ := ordB_iff.1 ho
  exact dis_rev (by omega) hO (fun a b ha hb => by
    rw [mrg_turnF hok ha hb, mAll_at (by omega) hb ha n (fun i hi => (h3 i hi).2), mrg_anti]
    omega)
theorem DisRev_ok {n m k km cA cap : Nat} {L : Nat → Nat} {v : Nat → Nat → Int} {o : Nat → Int} {A D : Option Addr} {w : World} (h : RowsK w A k (fun i => min (L i) 11) (revV (fun i => min (L i) 11) v)) (hk : k = min n 11) (hA : k ≤ cA) (hD : Ints w D km o) (hkm : km = min m 11) (hcap : km ≤ cap) (hok : okBal n L v = true) (ho : ordB (L 0) m o = true) :
    Lr 26 #[.slice A k cA, .slice D km cap] w (.tuple #[.int .i64 (disS n (mAll v (L 0) n) (fun k => o (m - 1 - k)) (L 0)), .int .i64 0]) := by
  subst hk hkm
  obtain ⟨h1, h2, h3⟩ := okBal_iff.1 hok
  obtain ⟨e1, e2, e3⟩ := bal_few hok
  have := Disagreement_ok A D (min n 11) cA (min m 11) cap (fun i => min (L i) 11) (revV (fun i => min (L i) 11) v) o w h (by rw [okBal_rev, okBal_few]; exact hok) hA hD hcap (by simp only [e2]; rw [ord_few _ _ _ (by omega)]; exact ho)
  rw [← disR hok ho]
  simp only [e1, e2] at this ⊢
  exact this
theorem DisRev_bad {n m k km cA cap : Nat} {L : Nat → Nat} {v : Nat → Nat → Int} {o : Nat → Int} {A D : Option Addr} {w : World} (h : RowsK w A k (fun i => min (L i) 11) (revV (fun i => min (L i) 11) v)) (hk : k = min n 11) (hA : k ≤ cA) (hD : Ints w D km o) (hkm : km = min m 11) (hcap : km ≤ cap) (hok : okBal n L v = true) (ho : ordB (L 0) m o = false) :
    Lr 26 #[.slice A k cA, .slice D km cap] w (.tuple #[.int .i64 0, .int .i64 2]) := by
  subst hk hkm
  obtain ⟨h1, h2, h3⟩ := okBal_iff.1 hok
  obtain ⟨e1, e2, e3⟩ := bal_few hok
  exact Disagreement_bad A D (min n 11) cA (min m 11) cap (fun i => min (L i) 11) (revV (fun i => min (L i) 11) v) o w h (by rw [okBal_rev, okBal_few]; exact hok) hA hD hcap (by omega) (by simp only [e2]; rw [ord_few _ _ _ (by omega)]; exact ho)
theorem DisBack_ok {n m k km cA cap : Nat} {L : Nat → Nat} {v : Nat → Nat → Int} {o : Nat → Int} {A D : Option Addr} {w : World} (h : RowsK w A k (fun i => min (L i) 11) v) (hk : k = min n 11) (hA : k ≤ cA) (hD : Ints w D km (fun q => o (km - 1 - q))) (hkm : km = min m 11) (hcap : km ≤ cap) (hok : okBal n L v = true) (ho : ordB (L 0) m o = true) :
    Lr 26 #[.slice A k cA, .slice D km cap] w (.tuple #[.int .i64 (disS n (mAll v (L 0) n) (fun k => o (m - 1 - k)) (L 0)), .int .i64 0]) := by
  subst hk hkm
  obtain ⟨h1, h2, h3⟩ := okBal_iff.1 hok
  obtain ⟨e1, e2, e3⟩ := bal_few hok
  have em : min m 11 = m := by have := (ordB_iff.1 ho).1; omega
  have := Disagreement_ok A D (min n 11) cA (min m 11) cap (fun i => min (L i) 11) v (fun q => o (min m 11 - 1 - q)) w h (by rw [okBal_few]; exact hok) hA hD hcap (by simp only [e2]; rw [ordB_rev, ord_few _ _ _ (by omega)]; exact ho)
  simp only [e1, e2] at this ⊢
  rw [em] at this ⊢
  exact this
theorem DisBack_bad {n m k km cA cap : Nat} {L : Nat → Nat} {v : Nat → Nat → Int} {o : Nat → Int} {A D : Option Addr} {w : World} (h : RowsK w A k (fun i => min (L i) 11) v) (hk : k = min n 11) (hA : k ≤ cA) (hD : Ints w D km (fun q => o (km - 1 - q))) (hkm : km = min m 11) (hcap : km ≤ cap) (hok : okBal n L v = true) (ho : ordB (L 0) m o = false) :
    Lr 26 #[.slice A k cA, .slice D km cap] w (.tuple #[.int .i64 0, .int .i64 2]) := by
  subst hk hkm
  obtain ⟨h1, h2, h3⟩ := okBal_iff.1 hok
  obtain ⟨e1, e2, e3⟩ := bal_few hok
  exact Disagreement_bad A D (min n 11) cA (min m 11) cap (fun i => min (L i) 11) v (fun q => o (min m 11 - 1 - q)) w h (by rw [okBal_few]; exact hok) hA hD hcap (by omega) (by simp only [e2]; rw [ordB_rev, ord_few _ _ _ (by omega)]; exact ho)

set_option maxHeartbeats 4000000 in
set_option maxRecDepth 1000000 in
theorem voteTurned_bal (A : Option Addr) (n c : Nat) (L : Nat → Nat) (v : Nat → Nat → Int) (D : Option Addr) (m cd : Nat) (o : Nat → Int) (w : World) (h : ArgR w A n c L v) (ho : ArgI w D m cd o) (hok : okBal n L v = false) :
    Calls Try.prog 11 #[.slice A n c, .slice D m cd] w fun e w' => e = .returned (.bool true) ∧ Below w.heap.size w w' := by
  have H := Lib.hid h
  have HD := Lib.hid ho
  have HK := Lib.hid hok
  have HK2 : Hid (okBal (min n 11) (fun i => min (L i) 11) (revV (fun i => min (L i) 11) v) = false) := Lib.hid (by rw [okBal_rev, okBal_few]; exact hok)
  clear hok
  clear h ho
  go_enter Try.func11, Try.ntmps11
  go_wp2_with fail
  refine (FewF A n c L v _ H.out).mono ?_
  rintro e w1 ⟨A1, k1, c1, rfl, hk1, hr1, hc1, hb1⟩
  have HM := Lib.hid (MarginsFbad (cA := c1) hr1 hk1 HK.out)
  have Hb1 := Lib.hid hb1
  clear hk1 hr1 hc1 hb1
  go_wp2_with fail
  refine Lr.use HM.out ?_
  intro w2 hb2
  have Hb2 := Lib.hid (Hb1.out.trans (hb2.mono Hb1.out.size))
  clear hb2 HM
  go_wp2_with fail
  refine (fewSv A n c L v _ (H.out.below Hb2.out)).mono ?_
  rintro e w3 ⟨A3, k3, c3, vals, rfl, hk3, hS3, hb3⟩
  have HS3 := Lib.hid hS3
  have Hk3 := Lib.hid hk3
  have HB3 := Lib.hid hb3
  clear hk3 hS3 hb3
  have Hb3 := Lib.hid (Hb2.out.trans (HB3.out.mono Hb2.out.size))
  go_wp2_with fail
  refine (listV (HD.out.below Hb3.out)).mono ?_
  rintro e w4 ⟨A4, k4, c4, rfl, hk4, hl4, hc4, hb4⟩
  have HS4 := Lib.hid (HS3.out.below hb4)
  have HL4 := Lib.hid hl4
  have Hk4 := Lib.hid hk4
  have Hc4 := Lib.hid hc4
  have HB4 := Lib.hid (HB3.out.trans (hb4.mono HB3.out.size))
  have HLow := Lib.hid HS3.out.low
  have Hs23 : Hid (w.heap.size ≤ w2.heap.size ∧ w2.heap.size ≤ w3.heap.size) := Lib.hid ⟨Hb2.out.size, HB3.out.size⟩
  clear hk4 hl4 hc4 hb4
  have hk11 : k3 ≤ 11 := by have := Hk3.out; omega
  have HL11 : Hid (∀ i, (fun i => min (L i) 11) i ≤ 11) := Lib.hid (fun i => by show min (L i) 11 ≤ 11; omega)
  have HS4z : Hid (OwnSv w4 w2.heap.size (.slice A3 k3 c3) k3 (fun i => min (L i) 11) (revT (fun i => min (L i) 11) v 0) vals) := Lib.hid (by rw [revT_zero]; exact HS4.out)
  clear HS3 HB3 Hb3 HS4
  go_wp2
  go_loopw [29] (fun i wr => ∃ k : Nat, k ≤ k3 ∧ i = .int .i64 k ∧ OwnSv wr w2.heap.size (.slice A3 k3 c3) k3 (fun i => min (L i) 11) (revT (fun i => min (L i) 11) v k) vals ∧ OwnL wr w3.heap.size (.slice A4 k4 c4) (lst k4 o) ∧ Below w2.heap.size w2 wr) (fun i _ => k3 - (intOf i).toNat)
  case atStart => exact ⟨0, Nat.zero_le _, rfl, HS4z.out, HL4.out, HB4.out⟩
  case round =>
    obtain ⟨k, hk, rfl, hS, hL, hB⟩ := hrel
    have HSk := Lib.hid hS
    have HLk := Lib.hid hL
    have HBk := Lib.hid hB
    clear hS hL hB HS4z HL4 HB4
    by_cases hlt : k < k3
    · obtain ⟨G, cG, Ar, cap, eG, hcr, hR⟩ := rev_row HSk.out HL11.out hlt
      injection eG with eG1 eG2 eG3
      subst eG1 eG3
      have HR := Lib.hid hR
      clear hR
      go_wp2_with fail
      refine HR.out.mono ?_
      rintro e w5 ⟨⟨u, rfl⟩, hS5, hE⟩
      rw [revT_next] at hS5
      have HS5 := Lib.hid hS5
      have HL5 := Lib.hid (turn_keep hE HLow.out.2 HLk.out)
      have HB5 := Lib.hid (turn_below hE HBk.out HBk.out.size)
      clear hS5 hE HR hcr
      go_wp2
      go_roundw
      case rel => exact ⟨k + 1, by omega, by go_num, HS5.out, HL5.out, HB5.out⟩
      case measure => simp [intOf]; omega
    · have hkk : k = k3 := by omega
      rw [hkk] at HSk ⊢
      clear hkk hlt hk
      have HSr := Lib.hid (revT_end HSk.out)
      have HRb := Lib.hid (rev_back HLk.out (by have := Hk4.out; omega))
      clear HSk
      go_wp2_with fail
      refine HRb.out.mono ?_
      rintro e w5 ⟨⟨u, rfl⟩, hL5, g, hg, hE⟩
      have HL5 := Lib.hid hL5
      have HS5 := Lib.hid (HSr.out.exc hE (fun a ha => by have := HLow.out.1 a ha; omega) (fun i y a hy ha => by have := HLow.out.2 i y a hy ha; omega))
      have HB5 := Lib.hid (HBk.out.trans (hE.below (by have := Hs23.out; omega) HBk.out.size))
      clear hL5 hE hg HRb HSr HLk HBk
      have Hb5 := Lib.hid (Hb2.out.trans (HB5.out.mono Hb2.out.size))
      obtain ⟨A6, c6, e6, hK6, hc6⟩ := HS5.out.own.rowsKc
      injection e6 with e6 e7 e8
      subst e6 e8
      have HK6 := Lib.hid hK6
      clear hK6 e7
      have HM := Lib.hid (Margins_bad A3 k3 c3 (fun i => min (L i) 11) (revV (fun i => min (L i) 11) v) w5 HK6.out (by rw [Hk3.out]; exact HK2.out) (by omega) (fun i hi => by show min (L i) 11 ≤ 1000; omega))
      clear HK6
      go_wp2_with fail
      refine Lr.use HM.out ?_
      intro w6 hb6
      have Hb6 := Lib.hid (Hb5.out.trans (hb6.mono Hb5.out.size))
      clear hb6 HM
      go_wp2_with fail
      refine Lr.use (awake_any _) ?_
      intro w7 hb7
      have Hb7 := Lib.hid (Hb6.out.trans (hb7.mono Hb6.out.size))
      clear hb7
      go_wp2
      go_ret
      exact ⟨rfl, Hb7.out⟩

set_option maxHeartbeats 4000000 in
set_option maxRecDepth 1000000 in
theorem voteTurned_ord (A : Option Addr) (n c : Nat) (L : Nat → Nat) (v : Nat → Nat → Int) (D : Option Addr) (m cd : Nat) (o : Nat → Int) (w : World) (h : ArgR w A n c L v) (ho : ArgI w D m cd o) (hok : okBal n L v = true) (hO : ordB (L 0) m o = false) :
    Calls Try.prog 11 #[.slice A n c, .slice D m cd] w fun e w' => e = .returned (.bool true) ∧ Below w.heap.size w w' := by
  have H := Lib.hid h
  have HD := Lib.hid ho
  have HK := Lib.hid hok
  have HO := Lib.hid hO
  clear hok hO
  clear h ho
  go_enter Try.func11, Try.ntmps11
  go_wp2_with fail
  refine (FewF A n c L v _ H.out).mono ?_
  rintro e w1 ⟨A1, k1, c1, rfl, hk1, hr1, hc1, hb1⟩
  have HM := Lib.hid (MarginsF (cA := c1) hr1 hk1 hc1 HK.out)
  have Hb1 := Lib.hid hb1
  clear hk1 hr1 hc1 hb1
  go_wp2_with fail
  refine HM.out.mono ?_
  rintro e w2 ⟨A2, c2, rfl, hr2, hb2⟩
  have HX2 := Lib.hid hr2
  have Hb2 := Lib.hid (Hb1.out.trans (hb2.mono Hb1.out.size))
  clear hb2 HM hr2
  go_wp2_with fail
  refine (fewSv A n c L v _ (H.out.below Hb2.out)).mono ?_
  rintro e w3 ⟨A3, k3, c3, vals, rfl, hk3, hS3, hb3⟩
  have HS3 := Lib.hid hS3
  have Hk3 := Lib.hid hk3
  have HB3 := Lib.hid hb3
  clear hk3 hS3 hb3
  have Hb3 := Lib.hid (Hb2.out.trans (HB3.out.mono Hb2.out.size))
  go_wp2_with fail
  refine (listV (HD.out.below Hb3.out)).mono ?_
  rintro e w4 ⟨A4, k4, c4, rfl, hk4, hl4, hc4, hb4⟩
  have HS4 := Lib.hid (HS3.out.below hb4)
  have HL4 := Lib.hid hl4
  have Hk4 := Lib.hid hk4
  have Hc4 := Lib.hid hc4
  have HB4 := Lib.hid (HB3.out.trans (hb4.mono HB3.out.size))
  have HLow := Lib.hid HS3.out.low
  have Hs23 : Hid (w.heap.size ≤ w2.heap.size ∧ w2.heap.size ≤ w3.heap.size) := Lib.hid ⟨Hb2.out.size, HB3.out.size⟩
  clear hk4 hl4 hc4 hb4
  have hk11 : k3 ≤ 11 := by have := Hk3.out; omega
  have HL11 : Hid (∀ i, (fun i => min (L i) 11) i ≤ 11) := Lib.hid (fun i => by show min (L i) 11 ≤ 11; omega)
  have HS4z : Hid (OwnSv w4 w2.heap.size (.slice A3 k3 c3) k3 (fun i => min (L i) 11) (revT (fun i => min (L i) 11) v 0) vals) := Lib.hid (by rw [revT_zero]; exact HS4.out)
  clear HS3 HB3 Hb3 HS4
  go_wp2
  go_loopw [29] (fun i wr => ∃ k : Nat, k ≤ k3 ∧ i = .int .i64 k ∧ OwnSv wr w2.heap.size (.slice A3 k3 c3) k3 (fun i => min (L i) 11) (revT (fun i => min (L i) 11) v k) vals ∧ OwnL wr w3.heap.size (.slice A4 k4 c4) (lst k4 o) ∧ Below w2.heap.size w2 wr) (fun i _ => k3 - (intOf i).toNat)
  case atStart => exact ⟨0, Nat.zero_le _, rfl, HS4z.out, HL4.out, HB4.out⟩
  case round =>
    obtain ⟨k, hk, rfl, hS, hL, hB⟩ := hrel
    have HSk := Lib.hid hS
    have HLk := Lib.hid hL
    have HBk := Lib.hid hB
    clear hS hL hB HS4z HL4 HB4
    by_cases hlt : k < k3
    · obtain ⟨G, cG, Ar, cap, eG, hcr, hR⟩ := rev_row HSk.out HL11.out hlt
      injection eG with eG1 eG2 eG3
      subst eG1 eG3
      have HR := Lib.hid hR
      clear hR
      go_wp2_with fail
      refine HR.out.mono ?_
      rintro e w5 ⟨⟨u, rfl⟩, hS5, hE⟩
      rw [revT_next] at hS5
      have HS5 := Lib.hid hS5
      have HL5 := Lib.hid (turn_keep hE HLow.out.2 HLk.out)
      have HB5 := Lib.hid (turn_below hE HBk.out HBk.out.size)
      clear hS5 hE HR hcr
      go_wp2
      go_roundw
      case rel => exact ⟨k + 1, by omega, by go_num, HS5.out, HL5.out, HB5.out⟩
      case measure => simp [intOf]; omega
    · have hkk : k = k3 := by omega
      rw [hkk] at HSk ⊢
      clear hkk hlt hk
      have HSr := Lib.hid (revT_end HSk.out)
      have HRb := Lib.hid (rev_back HLk.out (by have := Hk4.out; omega))
      clear HSk
      go_wp2_with fail
      refine HRb.out.mono ?_
      rintro e w5 ⟨⟨u, rfl⟩, hL5, g, hg, hE⟩
      have HL5 := Lib.hid hL5
      have HS5 := Lib.hid (HSr.out.exc hE (fun a ha => by have := HLow.out.1 a ha; omega) (fun i y a hy ha => by have := HLow.out.2 i y a hy ha; omega))
      have HB5 := Lib.hid (HBk.out.trans (hE.below (by have := Hs23.out; omega) HBk.out.size))
      clear hL5 hE hg HRb HSr HLk HBk
      have Hb5 := Lib.hid (Hb2.out.trans (HB5.out.mono Hb2.out.size))
      obtain ⟨A6, c6, e6, hK6, hc6⟩ := HS5.out.own.rowsKc
      injection e6 with e6 e7 e8
      subst e6 e8
      have HK6 := Lib.hid hK6
      clear hK6 e7
      have HM := Lib.hid (MarginsRev (cA := c3) HK6.out Hk3.out hc6 HK.out)
      have hcc6 := hc6
      go_wp2_with fail
      refine HM.out.mono ?_
      rintro e w6 ⟨B6, d6, rfl, hr6, hb6⟩
      have HY6 := Lib.hid hr6
      have HX6 := Lib.hid ((HX2.out.keep HB5.out).keep hb6)
      have HKa6 := Lib.hid (HK6.out.keep hb6)
      have HL6 := Lib.hid (HL5.out.below hb6)
      have Hb6 := Lib.hid (Hb5.out.trans (hb6.mono Hb5.out.size))
      have HMb : Hid (∀ a b, -9 ≤ mrg v (L 0) a b n ∧ mrg v (L 0) a b n ≤ 9) := Lib.hid (fun a b => by
        have h1 := mrg_bd v (L 0) a b n
        have h2 := (okBal_iff.1 HK.out).1
        omega)
      have HMa : Hid (∀ a b, mrg v (L 0) b a n = - mrg v (L 0) a b n) := Lib.hid (fun a b => mrg_anti v (L 0) a b n)
      have hL05 := (okBal_iff.1 HK.out).2.1.2
      clear hr6 hb6 HM HX2 HB5 HS5 HL5 Hb5 HK6 hc6
      go_wp2
      go_loopw [60] (fun i wr => ∃ a : Nat, a ≤ L 0 ∧ i = .int .i64 a ∧ Dn w6 wr) (fun i _ => L 0 - (intOf i).toNat)
      case atStart => exact ⟨0, Nat.zero_le _, rfl, Dn.refl _⟩
      case round =>
        obtain ⟨a, ha, rfl, hD⟩ := hrel
        have HDa := Lib.hid hD
        clear hD
        by_cases hla : a < L 0
        · obtain ⟨Y, rfl⟩ : ∃ Y, Y = wr := ⟨wr, rfl⟩
          go_wp2
          go_loopw [65] (fun i wx => ∃ b : Nat, b ≤ L 0 ∧ i = .int .i64 b ∧ Dn Y wx) (fun i _ => L 0 - (intOf i).toNat)
          case atStart => exact ⟨0, Nat.zero_le _, rfl, Dn.refl _⟩
          case round =>
            obtain ⟨b, hb, rfl, hD⟩ := hrel
            have HDb := Lib.hid (HDa.out.trans hD)
            have HDy := Lib.hid hD
            clear hD
            by_cases hlb : b < L 0
            · obtain ⟨xb, xo, X1, x1, eX, hX1, hX2⟩ := (HX6.out.dn HDb.out).at hla
              obtain ⟨yb, yo, Y1, y1, eY, hY1, hY2⟩ := (HY6.out.dn HDb.out).at hla
              obtain ⟨zb, zo, Z1, z1, eZ, hZ1, hZ2⟩ := (HX6.out.dn HDb.out).at hlb
              subst eX eY
              injection eZ with eZ
              injection eZ with eZ1 eZ2
              subst eZ1 eZ2
              obtain ⟨p1, p2, rfl, hp⟩ := hX2.at hlb
              obtain ⟨q1, q2, rfl, hq⟩ := hY2.at hlb
              obtain ⟨r1, r2, rfl, hr⟩ := hZ2.at hla
              have hbd := HMb.out a b
              rw [HMa.out a b] at hr
              clear hX2 hY2 hZ2
              generalize mrg v (L 0) a b n = M at *
              obtain ⟨hM1, hM2⟩ := hbd
              have hbn := bne_f (a := M) rfl
              go_wp2
              go_quiet (fail)
              go_wp2
              go_roundw
              case rel => exact ⟨b + 1, by omega, by go_num, HDy.out.drewN _⟩
              case measure => simp [intOf]; omega
            · have hbc : b = L 0 := by omega
              rw [hbc]
              clear hbc hlb hb
              go_wp2
              go_roundw
              case rel => exact ⟨a + 1, by omega, by go_num, HDb.out⟩
              case measure => simp [intOf]; omega
        · have hac : a = L 0 := by omega
          rw [hac]
          clear hac hla ha
          have Hb7 := Lib.hid (Hb6.out.trans (HDa.out.below _))
          have HKa7 : Hid (RowsK wr A3 k3 (fun i => min (L i) 11) (revV (fun i => min (L i) 11) v)) := Lib.hid (HKa6.out.dn HDa.out)
          have HL7 : Hid (OwnL wr w3.heap.size (.slice A4 k4 c4) (lst k4 (fun q => o (k4 - 1 - q)))) := Lib.hid (HL6.out.below (HDa.out.below _))
          clear HKa6 HL6 HX6 HY6
          go_wp2_with fail
          refine (listV (HD.out.below Hb7.out)).mono ?_
          rintro e w8 ⟨A8, k8, c8, rfl, hk8, hl8, hc8, hb8⟩
          obtain ⟨A8', c8', e8, hI8⟩ := hl8.sl0
          injection e8 with e8 e9 e10
          subst e8 e10
          have HKa8 := Lib.hid (HKa7.out.keep hb8)
          have HL8 := Lib.hid (HL7.out.below hb8)
          have Hb8 := Lib.hid (Hb7.out.trans (hb8.mono Hb7.out.size))
          have HDi := Lib.hid (DisRev_bad (cA := c3) (cap := c8) HKa8.out Hk3.out hcc6 hI8 hk8 hc8 HK.out HO.out)
          clear HKa7 HL7 hl8 hI8 hb8 e9 hk8 hc8
          go_wp2_with fail
          refine Lr.use HDi.out ?_
          intro w9 hb9
          have HL9 := Lib.hid (HL8.out.below hb9)
          have Hb9 := Lib.hid (Hb8.out.trans (hb9.mono Hb8.out.size))
          clear hb9 HDi HL8 HKa8
          go_wp2_with fail
          refine (FewF A n c L v _ (H.out.below Hb9.out)).mono ?_
          rintro e w10 ⟨A10, k10, c10, rfl, hk10, hr10, hc10, hb10⟩
          obtain ⟨A4', c4', e4, hI4⟩ := (HL9.out.below hb10).sl0
          injection e4 with e4 e5 e6
          subst e4 e6
          have HDi := Lib.hid (DisBack_bad (cA := c10) (cap := c4) hr10 hk10 hc10 hI4 Hk4.out Hc4.out HK.out HO.out)
          have Hb10 := Lib.hid (Hb9.out.trans (hb10.mono Hb9.out.size))
          clear hk10 hr10 hc10 hb10 hI4 e5 HL9
          go_wp2_with fail
          refine Lr.use HDi.out ?_
          intro w11 hb11
          have Hb11 := Lib.hid (Hb10.out.trans (hb11.mono Hb10.out.size))
          clear hb11 HDi
          go_wp2_with fail
          refine Lr.use (awake_any _) ?_
          intro w12 hb12
          have Hb12 := Lib.hid (Hb11.out.trans (hb12.mono Hb11.out.size))
          clear hb12
          go_wp2
          go_ret
          exact ⟨rfl, Hb12.out⟩

set_option maxHeartbeats 4000000 in
set_option maxRecDepth 1000000 in
theorem voteTurned_fine (A : Option Addr) (n c : Nat) (L : Nat → Nat) (v : Nat → Nat → Int) (D : Option Addr) (m cd : Nat) (o : Nat → Int) (w : World) (h : ArgR w A n c L v) (ho : ArgI w D m cd o) (hok : okBal n L v = true) (hO : ordB (L 0) m o = true) :
    Calls Try.prog 11 #[.slice A n c, .slice D m cd] w fun e w' => e = .returned (.bool true) ∧ Below w.heap.size w w' := by
  have H := Lib.hid h
  have HD := Lib.hid ho
  have HK := Lib.hid hok
  have HO := Lib.hid hO
  clear hok hO
  clear h ho
  go_enter Try.func11, Try.ntmps11
  go_wp2_with fail
  refine (FewF A n c L v _ H.out).mono ?_
  rintro e w1 ⟨A1, k1, c1, rfl, hk1, hr1, hc1, hb1⟩
  have HM := Lib.hid (MarginsF (cA := c1) hr1 hk1 hc1 HK.out)
  have Hb1 := Lib.hid hb1
  clear hk1 hr1 hc1 hb1
  go_wp2_with fail
  refine HM.out.mono ?_
  rintro e w2 ⟨A2, c2, rfl, hr2, hb2⟩
  have HX2 := Lib.hid hr2
  have Hb2 := Lib.hid (Hb1.out.trans (hb2.mono Hb1.out.size))
  clear hb2 HM hr2
  go_wp2_with fail
  refine (fewSv A n c L v _ (H.out.below Hb2.out)).mono ?_
  rintro e w3 ⟨A3, k3, c3, vals, rfl, hk3, hS3, hb3⟩
  have HS3 := Lib.hid hS3
  have Hk3 := Lib.hid hk3
  have HB3 := Lib.hid hb3
  clear hk3 hS3 hb3
  have Hb3 := Lib.hid (Hb2.out.trans (HB3.out.mono Hb2.out.size))
  go_wp2_with fail
  refine (listV (HD.out.below Hb3.out)).mono ?_
  rintro e w4 ⟨A4, k4, c4, rfl, hk4, hl4, hc4, hb4⟩
  have HS4 := Lib.hid (HS3.out.below hb4)
  have HL4 := Lib.hid hl4
  have Hk4 := Lib.hid hk4
  have Hc4 := Lib.hid hc4
  have HB4 := Lib.hid (HB3.out.trans (hb4.mono HB3.out.size))
  have HLow := Lib.hid HS3.out.low
  have Hs23 : Hid (w.heap.size ≤ w2.heap.size ∧ w2.heap.size ≤ w3.heap.size) := Lib.hid ⟨Hb2.out.size, HB3.out.size⟩
  clear hk4 hl4 hc4 hb4
  have hk11 : k3 ≤ 11 := by have := Hk3.out; omega
  have HL11 : Hid (∀ i, (fun i => min (L i) 11) i ≤ 11) := Lib.hid (fun i => by show min (L i) 11 ≤ 11; omega)
  have HS4z : Hid (OwnSv w4 w2.heap.size (.slice A3 k3 c3) k3 (fun i => min (L i) 11) (revT (fun i => min (L i) 11) v 0) vals) := Lib.hid (by rw [revT_zero]; exact HS4.out)
  clear HS3 HB3 Hb3 HS4
  go_wp2
  go_loopw [29] (fun i wr => ∃ k : Nat, k ≤ k3 ∧ i = .int .i64 k ∧ OwnSv wr w2.heap.size (.slice A3 k3 c3) k3 (fun i => min (L i) 11) (revT (fun i => min (L i) 11) v k) vals ∧ OwnL wr w3.heap.size (.slice A4 k4 c4) (lst k4 o) ∧ Below w2.heap.size w2 wr) (fun i _ => k3 - (intOf i).toNat)
  case atStart => exact ⟨0, Nat.zero_le _, rfl, HS4z.out, HL4.out, HB4.out⟩
  case round =>
    obtain ⟨k, hk, rfl, hS, hL, hB⟩ := hrel
    have HSk := Lib.hid hS
    have HLk := Lib.hid hL
    have HBk := Lib.hid hB
    clear hS hL hB HS4z HL4 HB4
    by_cases hlt : k < k3
    · obtain ⟨G, cG, Ar, cap, eG, hcr, hR⟩ := rev_row HSk.out HL11.out hlt
      injection eG with eG1 eG2 eG3
      subst eG1 eG3
      have HR := Lib.hid hR
      clear hR
      go_wp2_with fail
      refine HR.out.mono ?_
      rintro e w5 ⟨⟨u, rfl⟩, hS5, hE⟩
      rw [revT_next] at hS5
      have HS5 := Lib.hid hS5
      have HL5 := Lib.hid (turn_keep hE HLow.out.2 HLk.out)
      have HB5 := Lib.hid (turn_below hE HBk.out HBk.out.size)
      clear hS5 hE HR hcr
      go_wp2
      go_roundw
      case rel => exact ⟨k + 1, by omega, by go_num, HS5.out, HL5.out, HB5.out⟩
      case measure => simp [intOf]; omega
    · have hkk : k = k3 := by omega
      rw [hkk] at HSk ⊢
      clear hkk hlt hk
      have HSr := Lib.hid (revT_end HSk.out)
      have HRb := Lib.hid (rev_back HLk.out (by have := Hk4.out; omega))
      clear HSk
      go_wp2_with fail
      refine HRb.out.mono ?_
      rintro e w5 ⟨⟨u, rfl⟩, hL5, g, hg, hE⟩
      have HL5 := Lib.hid hL5
      have HS5 := Lib.hid (HSr.out.exc hE (fun a ha => by have := HLow.out.1 a ha; omega) (fun i y a hy ha => by have := HLow.out.2 i y a hy ha; omega))
      have HB5 := Lib.hid (HBk.out.trans (hE.below (by have := Hs23.out; omega) HBk.out.size))
      clear hL5 hE hg HRb HSr HLk HBk
      have Hb5 := Lib.hid (Hb2.out.trans (HB5.out.mono Hb2.out.size))
      obtain ⟨A6, c6, e6, hK6, hc6⟩ := HS5.out.own.rowsKc
      injection e6 with e6 e7 e8
      subst e6 e8
      have HK6 := Lib.hid hK6
      clear hK6 e7
      have HM := Lib.hid (MarginsRev (cA := c3) HK6.out Hk3.out hc6 HK.out)
      have hcc6 := hc6
      go_wp2_with fail
      refine HM.out.mono ?_
      rintro e w6 ⟨B6, d6, rfl, hr6, hb6⟩
      have HY6 := Lib.hid hr6
      have HX6 := Lib.hid ((HX2.out.keep HB5.out).keep hb6)
      have HKa6 := Lib.hid (HK6.out.keep hb6)
      have HL6 := Lib.hid (HL5.out.below hb6)
      have Hb6 := Lib.hid (Hb5.out.trans (hb6.mono Hb5.out.size))
      have HMb : Hid (∀ a b, -9 ≤ mrg v (L 0) a b n ∧ mrg v (L 0) a b n ≤ 9) := Lib.hid (fun a b => by
        have h1 := mrg_bd v (L 0) a b n
        have h2 := (okBal_iff.1 HK.out).1
        omega)
      have HMa : Hid (∀ a b, mrg v (L 0) b a n = - mrg v (L 0) a b n) := Lib.hid (fun a b => mrg_anti v (L 0) a b n)
      have hL05 := (okBal_iff.1 HK.out).2.1.2
      clear hr6 hb6 HM HX2 HB5 HS5 HL5 Hb5 HK6 hc6
      go_wp2
      go_loopw [60] (fun i wr => ∃ a : Nat, a ≤ L 0 ∧ i = .int .i64 a ∧ Dn w6 wr) (fun i _ => L 0 - (intOf i).toNat)
      case atStart => exact ⟨0, Nat.zero_le _, rfl, Dn.refl _⟩
      case round =>
        obtain ⟨a, ha, rfl, hD⟩ := hrel
        have HDa := Lib.hid hD
        clear hD
        by_cases hla : a < L 0
        · obtain ⟨Y, rfl⟩ : ∃ Y, Y = wr := ⟨wr, rfl⟩
          go_wp2
          go_loopw [65] (fun i wx => ∃ b : Nat, b ≤ L 0 ∧ i = .int .i64 b ∧ Dn Y wx) (fun i _ => L 0 - (intOf i).toNat)
          case atStart => exact ⟨0, Nat.zero_le _, rfl, Dn.refl _⟩
          case round =>
            obtain ⟨b, hb, rfl, hD⟩ := hrel
            have HDb := Lib.hid (HDa.out.trans hD)
            have HDy := Lib.hid hD
            clear hD
            by_cases hlb : b < L 0
            · obtain ⟨xb, xo, X1, x1, eX, hX1, hX2⟩ := (HX6.out.dn HDb.out).at hla
              obtain ⟨yb, yo, Y1, y1, eY, hY1, hY2⟩ := (HY6.out.dn HDb.out).at hla
              obtain ⟨zb, zo, Z1, z1, eZ, hZ1, hZ2⟩ := (HX6.out.dn HDb.out).at hlb
              subst eX eY
              injection eZ with eZ
              injection eZ with eZ1 eZ2
              subst eZ1 eZ2
              obtain ⟨p1, p2, rfl, hp⟩ := hX2.at hlb
              obtain ⟨q1, q2, rfl, hq⟩ := hY2.at hlb
              obtain ⟨r1, r2, rfl, hr⟩ := hZ2.at hla
              have hbd := HMb.out a b
              rw [HMa.out a b] at hr
              clear hX2 hY2 hZ2
              generalize mrg v (L 0) a b n = M at *
              obtain ⟨hM1, hM2⟩ := hbd
              have hbn := bne_f (a := M) rfl
              go_wp2
              go_quiet (fail)
              go_wp2
              go_roundw
              case rel => exact ⟨b + 1, by omega, by go_num, HDy.out.drewN _⟩
              case measure => simp [intOf]; omega
            · have hbc : b = L 0 := by omega
              rw [hbc]
              clear hbc hlb hb
              go_wp2
              go_roundw
              case rel => exact ⟨a + 1, by omega, by go_num, HDb.out⟩
              case measure => simp [intOf]; omega
        · have hac : a = L 0 := by omega
          rw [hac]
          clear hac hla ha
          have Hb7 := Lib.hid (Hb6.out.trans (HDa.out.below _))
          have HKa7 : Hid (RowsK wr A3 k3 (fun i => min (L i) 11) (revV (fun i => min (L i) 11) v)) := Lib.hid (HKa6.out.dn HDa.out)
          have HL7 : Hid (OwnL wr w3.heap.size (.slice A4 k4 c4) (lst k4 (fun q => o (k4 - 1 - q)))) := Lib.hid (HL6.out.below (HDa.out.below _))
          clear HKa6 HL6 HX6 HY6
          go_wp2_with fail
          refine (listV (HD.out.below Hb7.out)).mono ?_
          rintro e w8 ⟨A8, k8, c8, rfl, hk8, hl8, hc8, hb8⟩
          obtain ⟨A8', c8', e8, hI8⟩ := hl8.sl0
          injection e8 with e8 e9 e10
          subst e8 e10
          have HKa8 := Lib.hid (HKa7.out.keep hb8)
          have HL8 := Lib.hid (HL7.out.below hb8)
          have Hb8 := Lib.hid (Hb7.out.trans (hb8.mono Hb7.out.size))
          have HDi := Lib.hid (DisRev_ok (cA := c3) (cap := c8) HKa8.out Hk3.out hcc6 hI8 hk8 hc8 HK.out HO.out)
          clear HKa7 HL7 hl8 hI8 hb8 e9 hk8 hc8
          go_wp2_with fail
          refine Lr.use HDi.out ?_
          intro w9 hb9
          have HL9 := Lib.hid (HL8.out.below hb9)
          have Hb9 := Lib.hid (Hb8.out.trans (hb9.mono Hb8.out.size))
          clear hb9 HDi HL8 HKa8
          go_wp2_with fail
          refine (FewF A n c L v _ (H.out.below Hb9.out)).mono ?_
          rintro e w10 ⟨A10, k10, c10, rfl, hk10, hr10, hc10, hb10⟩
          obtain ⟨A4', c4', e4, hI4⟩ := (HL9.out.below hb10).sl0
          injection e4 with e4 e5 e6
          subst e4 e6
          have HDi := Lib.hid (DisBack_ok (cA := c10) (cap := c4) hr10 hk10 hc10 hI4 Hk4.out Hc4.out HK.out HO.out)
          have Hb10 := Lib.hid (Hb9.out.trans (hb10.mono Hb9.out.size))
          clear hk10 hr10 hc10 hb10 hI4 e5 HL9
          go_wp2_with fail
          refine Lr.use HDi.out ?_
          intro w11 hb11
          have Hb11 := Lib.hid (Hb10.out.trans (hb11.mono Hb10.out.size))
          clear hb11 HDi
          generalize disS n (mAll v (L 0) n) (fun k => o (m - 1 - k)) (L 0) = S at *
          have hSS := beq_t (a := S) rfl
          go_wp2_with fail
          refine Lr.use (awake_any _) ?_
          intro w12 hb12
          have Hb12 := Lib.hid (Hb11.out.trans (hb12.mono Hb11.out.size))
          clear hb12
          go_wp2
          go_ret
          exact ⟨rfl, Hb12.out⟩

theorem voteTurned_walk (A : Option Addr) (n c : Nat) (L : Nat → Nat) (v : Nat → Nat → Int) (D : Option Addr) (m cd : Nat) (o : Nat → Int) (w : World) (h : ArgR w A n c L v) (ho : ArgI w D m cd o) :
    Calls Try.prog 11 #[.slice A n c, .slice D m cd] w fun e w' => e = .returned (.bool true) ∧ Below w.heap.size w w' := by
  cases hok : okBal n L v with
  | false => exact voteTurned_bal A n c L v D m cd o w h ho hok
  | true => cases hO : ordB (L 0) m o with
    | false => exact voteTurned_ord A n c L v D m cd o w h ho hok hO
    | true => exact voteTurned_fine A n c L v D m cd o w h ho hok hO
end Go.Proofs.Ytahoolibnpbofaa
