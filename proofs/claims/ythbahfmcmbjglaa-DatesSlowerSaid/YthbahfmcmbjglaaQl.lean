/- The reference's ends, Plan, Short, Delay. -/
import Derived.Test.YthbahfmcmbjglaaQj
import Derived.Test.YthbahfmcmbjglaaQk
namespace Go.Proofs.Ythbahfmcmbjglaa
open Go.RowKit

set_option maxHeartbeats 1000000 in
set_option maxRecDepth 1000000 in
theorem refEnds_any (A A2 : Option Addr) (m c c2 n : Nat) (p : Nat → Nat → Int) (w : World) (h : Recs 3 w A m p) (hp : ∀ a, a < m → 0 ≤ p a 0 ∧ p a 0 < n) (hm : m ≤ 10000) (hn : n ≤ 8) :
    Calls Try.prog 49 #[.slice A2 n c2, .slice A m c] w fun e w' => e = .returned (.slice (some ⟨w.heap.size, 0, none⟩) n n) ∧ RowI w' w.heap.size n (enF p m) ∧ Below w.heap.size w w' := by
  have H := Lib.hid h
  have HP := Lib.hid hp
  clear h hp
  have hmk := mk_ints n (by omega) w
  go_enter Try.func49, Try.ntmps49
  go_wp2
  have hM := RowI.made w n
  have hB0 := (Below.refl w.heap.size w).alloc (Nat.le_refl _) (.cells (madeCells #[.int .i64 0] n) 3)
  clear hmk
  generalize w.alloc (.cells (madeCells #[.int .i64 0] n) 3) = W0 at *
  go_loopw [13] (fun i wr => ∃ k : Nat, k ≤ m ∧ i = .int .i64 k ∧ RowI wr w.heap.size n (enF p k) ∧ Below w.heap.size w wr) (fun i _ => m - (intOf i).toNat)
  case atStart => exact ⟨0, Nat.zero_le _, rfl, hM, hB0⟩
  case round =>
    obtain ⟨k, hk, rfl, hR, hD⟩ := hrel
    have HR := Lib.hid hR
    have HD := Lib.hid hD
    clear hR hM hB0
    by_cases hlt : k < m
    · obtain ⟨b, o, rfl, c0, c1, c2⟩ := (H.out.keep hD).three hlt
      have hpk := HP.out k hlt
      obtain ⟨j, hj, hjn⟩ : ∃ j : Nat, p k 0 = (j : Int) ∧ j < n := ⟨(p k 0).toNat, by omega, by omega⟩
      have HJ : Hid (enF p (k + 1) = upd (enF p k) j (p k 2)) := Lib.hid (by rw [enF, hj]; rfl)
      rw [hj] at c0
      have hA1 := HR.out.alloc (.cells #[.int .i64 (j : Int), .int .i64 (p k 1), .int .i64 (p k 2)] 48)
      have hcell := hA1.cell hjn
      have hfr := hA1.frozen j
      have HS := Lib.hid (hA1.set j (p k 2))
      have hB1 : Below w.heap.size w (wr.alloc (.cells #[.int .i64 (j : Int), .int .i64 (p k 1), .int .i64 (p k 2)] 48)) := hD.alloc hD.size _
      have HB := Lib.hid (hB1.setCell (p := ⟨w.heap.size, j, none⟩) (Nat.le_refl _) (.int .i64 (p k 2)))
      clear hA1 hB1 hpk hj hD
      go_wp2
      go_roundw
      case rel => exact ⟨k + 1, by omega, by go_num, by rw [HJ.out]; exact HS.out, HB.out⟩
      case measure => simp [intOf]; omega
    · obtain rfl : k = m := by omega
      go_wp2
      go_ret
      exact ⟨rfl, HR.out, HD.out⟩

set_option maxHeartbeats 1000000 in
set_option maxRecDepth 1000000 in
theorem refPlan_any (A : Option Addr) (n c : Nat) (J : Nat → Nat → Int) (w : World) (h : Recs 4 w A n J) (hok : okJ n J = true) :
    Calls Try.prog 27 #[.slice A n c] w fun e w' => ∃ v, e = .returned v ∧ OwnK 3 48 w' w.heap.size v (plS 0 n J).m (plS 0 n J).p ∧ Below w.heap.size w w' := by
  have H := Lib.hid h
  have HO := Lib.hid hok
  clear h hok
  go_enter Try.func27, Try.ntmps27
  go_wp2_with fail
  refine (refPlan0_any A n c J w H.out HO.out).mono ?_
  rintro e w1 ⟨v, rfl, hv, hb⟩
  go_wp2
  go_ret
  exact ⟨v, rfl, hv, hb⟩

set_option maxHeartbeats 1000000 in
set_option maxRecDepth 1000000 in
theorem refShort_any (A : Option Addr) (n c : Nat) (J : Nat → Nat → Int) (w : World) (h : Recs 4 w A n J) (hok : okJ n J = true) :
    Calls Try.prog 30 #[.slice A n c] w fun e w' => ∃ v, e = .returned (.tuple #[v, .int .i64 (smT (enF (plS 1 n J).p (plS 1 n J).m) n)]) ∧ OwnK 3 48 w' w.heap.size v (plS 1 n J).m (plS 1 n J).p ∧ Below w.heap.size w w' := by
  have H := Lib.hid h
  have HO := Lib.hid hok
  have hn := (okJ_iff.1 hok).1.2
  clear h hok
  go_enter Try.func30, Try.ntmps30
  go_wp2_with fail
  refine (refPlan1_any A n c J w H.out HO.out).mono ?_
  rintro e w2 ⟨v, rfl, hv, hb2⟩
  have HV := Lib.hid hv
  have HB2 := Lib.hid hb2
  have hm := plS_m 1 HO.out
  have HRg := Lib.hid (plS_rng 1 HO.out)
  obtain ⟨Av, cv, rfl, -, hRv, -⟩ := hv.form
  have HRv := Lib.hid hRv
  clear hv hb2 hRv
  go_wp2_with fail
  refine (refEnds_any Av A (plS 1 n J).m cv c n (plS 1 n J).p w2 HRv.out HRg.out (by omega) hn).mono ?_
  rintro e w3 ⟨rfl, hE, hb3⟩
  have HE := Lib.hid hE
  have HV3 := Lib.hid (HV.out.below hb3)
  have HB3 := Lib.hid (HB2.out.trans (hb3.mono HB2.out.size))
  clear hE hb3
  go_wp2
  have HN := Lib.hid (enF_rng (plS 1 n J).p (plS 1 n J).m (plS_rng2 1 HO.out))
  generalize heq : enF (plS 1 n J).p (plS 1 n J).m = e at *
  have HQ := Lib.hid heq
  clear heq
  go_loopw [5, 14] (fun s i wr => ∃ k : Nat, k ≤ n ∧ i = .int .i64 k ∧ s = .int .i64 (smT e k) ∧ 0 ≤ smT e k ∧ smT e k ≤ 260 * k ∧ Dn w3 wr) (fun _ i _ => n - (intOf i).toNat)
  case atStart => exact ⟨0, Nat.zero_le _, rfl, rfl, Int.le_refl _, by simp [smT], Dn.refl _⟩
  case round =>
    obtain ⟨k, hk, rfl, rfl, h0, h1, hD⟩ := hrel
    by_cases hlt : k < n
    · have hc := (HE.out.dn hD).cell hlt
      have hek := HN.out k
      have HS : Hid (smT e (k + 1) = smT e k + e k) := Lib.hid rfl
      generalize smT e k = sm at *
      have hk8 : (k : Int) ≤ 8 := by omega
      obtain ⟨hek1, hek2⟩ := hek
      go_wp2
      go_roundw
      case rel => exact ⟨k + 1, by omega, by go_num, by rw [HS.out], by rw [HS.out]; omega, by rw [HS.out]; push_cast; omega, hD⟩
      case measure => simp [intOf]; omega
    · obtain rfl : k = n := by omega
      go_wp2
      go_returns
      exact ⟨_, by rw [HQ.out]; rfl, HV3.out.dn hD, HB3.out.trans (hD.below _)⟩

set_option maxHeartbeats 1000000 in
set_option maxRecDepth 1000000 in
theorem refDelay_any (A : Option Addr) (n c : Nat) (J : Nat → Nat → Int) (w : World) (h : Recs 4 w A n J) (hok : okJ n J = true) :
    Calls Try.prog 28 #[.slice A n c] w fun e w' => ∃ x, e = .returned (.int .i64 x) ∧ IsDl n J (enF (plS 0 n J).p (plS 0 n J).m) x ∧ Below w.heap.size w w' := by
  have H := Lib.hid h
  have HO := Lib.hid hok
  have hn := (okJ_iff.1 hok).1.2
  clear h hok
  go_enter Try.func28, Try.ntmps28
  go_wp2_with fail
  refine (refPlan_any A n c J w H.out HO.out).mono ?_
  rintro e w2 ⟨v, rfl, hv, hb2⟩
  have HB2 := Lib.hid hb2
  have hm := plS_m 0 HO.out
  have HRg := Lib.hid (plS_rng 0 HO.out)
  obtain ⟨Av, cv, rfl, -, hRv, -⟩ := hv.form
  have HRv := Lib.hid hRv
  clear hv hb2 hRv
  go_wp2_with fail
  refine (refEnds_any Av A (plS 0 n J).m cv c n (plS 0 n J).p w2 HRv.out HRg.out (by omega) hn).mono ?_
  rintro e w3 ⟨rfl, hE, hb3⟩
  have HE := Lib.hid hE
  have HB3 := Lib.hid (HB2.out.trans (hb3.mono HB2.out.size))
  clear hE hb3
  go_wp2
  have HN := Lib.hid (enF_rng (plS 0 n J).p (plS 0 n J).m (plS_rng2 0 HO.out))
  generalize heq : enF (plS 0 n J).p (plS 0 n J).m = e at *
  have HQ := Lib.hid heq
  clear heq
  go_loopw [3, 11] (fun s i wr => ∃ (k : Nat) (x : Int), k ≤ n ∧ i = .int .i64 k ∧ s = .int .i64 x ∧ (k = 0 → x = -1073741824) ∧ (0 < k → IsDl k J e x) ∧ -1073741824 ≤ x ∧ Dn w3 wr) (fun _ i _ => n - (intOf i).toNat)
  case atStart => exact ⟨0, _, Nat.zero_le _, rfl, rfl, fun _ => rfl, fun h => absurd h (by omega), Int.le_refl _, Dn.refl _⟩
  case round =>
    obtain ⟨k, x, hk, rfl, rfl, hx0, hxk, hxl, hD⟩ := hrel
    have HX0 := Lib.hid hx0
    have HXk := Lib.hid hxk
    clear hx0 hxk
    by_cases hlt : k < n
    · have hc := (HE.out.dn hD).cell hlt
      obtain ⟨b, o, rfl, c0, c1, c2, c3⟩ := (H.out.keep (HB3.out.trans (hD.below _))).four hlt
      have hek := HN.out k
      have hJ := (okJ_iff.1 HO.out).2 k hlt
      obtain ⟨-, -, ⟨hJ1, hJ2⟩, -⟩ := hJ
      obtain ⟨hek1, hek2⟩ := hek
      rcases Int.lt_or_le x (e k - J k 2) with hx | hx
      · have HI : Hid (IsDl (k + 1) J e (e k - J k 2)) := Lib.hid ⟨fun a ha => by
          rcases Nat.lt_or_ge a k with h3 | h3
          · have := (HXk.out (by omega)).1 a h3
            omega
          · obtain rfl : a = k := by omega
            exact Int.le_refl _, k, by omega, rfl⟩
        generalize hd : e k - J k 2 = d at *
        go_wp2
        go_roundw
        case rel => exact ⟨k + 1, d, by omega, by go_num, val_int (by omega), fun h => absurd h (by omega), fun _ => HI.out, by omega, hD⟩
        case measure => simp [intOf]; omega
      · have HI : Hid (IsDl (k + 1) J e x) := Lib.hid (by
          have hk0 : 0 < k := by
            rcases Nat.eq_zero_or_pos k with h | h
            · have := HX0.out h
              omega
            · exact h
          obtain ⟨h1, a, h2, h3⟩ := HXk.out hk0
          refine ⟨fun a ha => ?_, a, by omega, h3⟩
          rcases Nat.lt_or_ge a k with h4 | h4
          · exact h1 a h4
          · obtain rfl : a = k := by omega
            exact hx)
        go_wp2
        go_roundw
        case rel => exact ⟨k + 1, x, by omega, by go_num, val_int (by omega), fun h => absurd h (by omega), fun _ => HI.out, hxl, hD⟩
        case measure => simp [intOf]; omega
    · obtain rfl : k = n := by omega
      have hn1 := (okJ_iff.1 HO.out).1.1
      go_wp2
      go_ret
      exact ⟨x, rfl, by rw [HQ.out]; exact HXk.out (by omega), HB3.out.trans (hD.below _)⟩
end Go.Proofs.Ythbahfmcmbjglaa
