import Derived.Test.YtkgikehagkpmoaaRd2
import Derived.IntWalk
namespace Go.Proofs.Ytkgikehagkpmoaa
open Go.RowKit

theorem tmod_nat2 (x n : Nat) : ((x : Int)).tmod (n : Int) = ((x % n : Nat) : Int) := by
  rw [Int.tmod_eq_emod_of_nonneg (by omega)]
  exact (Int.natCast_emod x n).symm

set_option maxHeartbeats 1000000 in
set_option maxRecDepth 1000000 in
theorem Rounds_ok (A : Option Addr) (n c : Nat) (L : Nat → Nat) (v : Nat → Nat → Int) (w : World) (h : Rows2 w A n L v) (hn : n ≤ 9) (hL : Short n L) (hok : okVals n L v = true) :
    Calls Try.prog 12 #[.slice A n c] w fun e w' => ∃ Ax cx D, e = .returned (.tuple #[.slice Ax (L 0) cx, .int .i64 0]) ∧ Ints w' Ax (L 0) D ∧ Own n (L 0) D ∧ Ef1 n (L 0) v D ∧ Below w.heap.size w w' := by
  obtain ⟨h1, h2, h3, h4, h5, h6⟩ := okVals_of hok
  have HM := Lib.hid (okVals_mat h hok)
  have HB := Lib.hid hok
  have H6 := Lib.hid h6
  obtain ⟨b, o, R, cR, rfl, -, -⟩ := h.at (show 0 < n by omega)
  obtain ⟨R0, c0, hc0, -⟩ := h.cell0 (by omega)
  generalize hm : L 0 = m at *
  have HMm := Lib.hid hm
  clear hok h5 h6 hm
  go_enter Try.func12, Try.ntmps12
  go_wp2_with fail
  refine (validValues_any _ _ _ _ _ _ h hn hL).mono ?_
  rintro e w' ⟨rfl, rfl⟩
  rw [HB.out]
  go_wp2_with fail
  refine (undivided_any m _ (by omega)).mono ?_
  rintro e w1 ⟨rfl, hR1, hb1⟩
  have HR1 := Lib.hid hR1
  have Hb1 := Lib.hid hb1
  clear hR1 hb1 hc0
  go_wp2_with fail
  obtain ⟨gd, hgd⟩ : ∃ gd, gd = w.heap.size := ⟨_, rfl⟩
  have HGd := Lib.hid hgd
  rw [← hgd]
  rw [← hgd] at HR1
  clear hgd
  go_loopw [17] (fun x wr => ∃ (k : Nat) (D : Nat → Int) (p : Nat → Nat), k ≤ m ∧ x = .int .i64 k ∧ RowI wr gd m D ∧ RdI n m k v D p ∧ Below w.heap.size w wr) (fun x _ => m - (intOf x).toNat)
  case atStart => exact ⟨0, fun _ => -1, fun _ => 0, Nat.zero_le _, rfl, HR1.out, RdI.start v, Hb1.out⟩
  case round =>
    obtain ⟨k, D, p, hk, rfl, hR, hP, hbel⟩ := hrel
    by_cases hlt : k < m
    · obtain ⟨i, hi⟩ : ∃ i, i = k % n := ⟨_, rfl⟩
      have hin : i < n := by rw [hi]; exact Nat.mod_lt _ (by omega)
      have t1 : ((k : Int)).tmod (n : Int) = (i : Int) := by rw [hi]; exact tmod_nat2 k n
      have hn0 : (0 : Int) < n := by omega
      have hnz : ¬ (n : Int) = 0 := by omega
      obtain ⟨Ri, ci, hci, hVi⟩ := (HM.out.keep hbel).cell hin
      have HFv := Lib.hid (favourite_any Ri _ m ci m (v i) D wr hVi hR.ints (by omega))
      have HI := Lib.hid hi
      have HR := Lib.hid hR
      have HP := Lib.hid hP
      have Hbel := Lib.hid hbel
      clear hVi hR hP hbel hi
      go_wp2_with fail
      refine HFv.out.mono ?_
      rintro e w2 ⟨x, rfl, hF, hD2⟩
      obtain ⟨g, hg, rfl, hDg, hbest⟩ := HP.out.fav hlt hF
      have HNx := Lib.hid (HP.out.next (by omega) hg hDg (fun x hx he => by rw [← HI.out]; exact hbest x hx he))
      have hR2 := HR.out.dn hD2
      have hck := hR2.cell hg
      have hfz := hR2.frozen g
      have HR2 := Lib.hid (hR2.set g (i : Int))
      have hgd0 : w.heap.size ≤ gd := by rw [HGd.out]; exact Nat.le_refl _
      have Hb2 := Lib.hid ((Hbel.out.trans ((hD2.below _).mono Hbel.out.size)).setCell (p := ⟨gd, g, none⟩) hgd0 (.int .i64 (i : Int)))
      have hg0 : (0 : Int) ≤ g := by omega
      have hgm : (g : Int) < m := by omega
      clear hF hbest hR2 hgd0 hD2 t1 hci
      rw [← HI.out] at HNx
      go_wp2
      go_roundw
      case rel => exact ⟨k + 1, _, _, by omega, by go_num, HR2.out, HNx.out, Hb2.out⟩
      case measure => simp [intOf]; omega
    · obtain rfl : m = k := by omega
      have HR := Lib.hid hR
      have HF := Lib.hid (hP.ef1 (by omega) h2 H6.out)
      clear hR hP
      go_wp2
      go_ret2
      exact ⟨_, _, D, rfl, HR.out.ints, HF.out.1, HF.out.2, hbel⟩

set_option maxRecDepth 1000000 in
theorem Rounds_bad (A : Option Addr) (n c : Nat) (L : Nat → Nat) (v : Nat → Nat → Int) (w : World) (h : Rows2 w A n L v) (hn : n ≤ 9) (hL : Short n L) (hbad : okVals n L v = false) :
    Calls Try.prog 12 #[.slice A n c] w fun e w' => e = .returned (.tuple #[.slice none 0 0, .int .i64 2]) ∧ w = w' := by
  have HB := Lib.hid hbad
  clear hbad
  go_enter Try.func12, Try.ntmps12
  go_wp2_with fail
  refine (validValues_any _ _ _ _ _ _ h hn hL).mono ?_
  rintro e w' ⟨rfl, rfl⟩
  rw [HB.out]
  go_wp2
  go_ret2
  exact ⟨rfl, rfl⟩
set_option maxRecDepth 1000000 in
theorem Cycles_bad (A : Option Addr) (n c : Nat) (L : Nat → Nat) (v : Nat → Nat → Int) (w : World) (h : Rows2 w A n L v) (hn : n ≤ 9) (hL : Short n L) (hbad : okVals n L v = false) :
    Calls Try.prog 14 #[.slice A n c] w fun e w' => e = .returned (.tuple #[.slice none 0 0, .int .i64 2]) ∧ w = w' := by
  have HB := Lib.hid hbad
  clear hbad
  go_enter Try.func14, Try.ntmps14
  go_wp2_with fail
  refine (validValues_any _ _ _ _ _ _ h hn hL).mono ?_
  rintro e w' ⟨rfl, rfl⟩
  rw [HB.out]
  go_wp2
  go_ret2
  exact ⟨rfl, rfl⟩
end Go.Proofs.Ytkgikehagkpmoaa
