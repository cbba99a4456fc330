import Derived.Test.YtkgikehagkpmoaaEx1
import Derived.IntWalk
namespace Go.Proofs.Ytkgikehagkpmoaa
open Go.RowKit

/-- Who has what when t turns are over. -/
def rdD (n m : Nat) (v : Nat → Nat → Int) : Nat → Nat → Int
  | 0 => fun _ => -1
  | t + 1 => upd (rdD n m v t) (favF (v (t % n)) (rdD n m v t) m).toNat ((t % n : Nat) : Int)

set_option maxHeartbeats 1000000 in
set_option maxRecDepth 1000000 in
theorem Rounds_ex (A : Option Addr) (n c : Nat) (L : Nat → Nat) (v : Nat → Nat → Int) (w : World) (h : Rows2 w A n L v) (hn : n ≤ 9) (hL : Short n L) (hok : okVals n L v = true) :
    Calls Try.prog 12 #[.slice A n c] w fun e w' => ∃ Ax cx D, e = .returned (.tuple #[.slice Ax (L 0) cx, .int .i64 0]) ∧ Ints w' Ax (L 0) D ∧ D = rdD n (L 0) v (L 0) ∧ Below w.heap.size w w' := by
  obtain ⟨h1, h2, h3, h4, h5, h6⟩ := okVals_of hok
  have HM := Lib.hid (okVals_mat h hok)
  have HB := Lib.hid hok
  have H6 := Lib.hid h6
  obtain ⟨b, o, R, cR, rfl, -, -⟩ := h.at (show 0 < n by omega)
  obtain ⟨R0, c0, hc0, -⟩ := h.cell0 (by omega)
  generalize hm : L 0 = m at *
  have HMm := Lib.hid hm
  clear hok h5 h6 hm
  go_enter Try.func12, Try.ntmps12
  go_wp2_with fail
  refine (validValues_any _ _ _ _ _ _ h hn hL).mono ?_
  rintro e w' ⟨rfl, rfl⟩
  rw [HB.out]
  go_wp2_with fail
  refine (undivided_any m _ (by omega)).mono ?_
  rintro e w1 ⟨rfl, hR1, hb1⟩
  have HR1 := Lib.hid hR1
  have Hb1 := Lib.hid hb1
  clear hR1 hb1 hc0
  go_wp2_with fail
  obtain ⟨gd, hgd⟩ : ∃ gd, gd = w.heap.size := ⟨_, rfl⟩
  have HGd := Lib.hid hgd
  rw [← hgd]
  rw [← hgd] at HR1
  clear hgd
  go_loopw [17] (fun x wr => ∃ (k : Nat) (D : Nat → Int) (p : Nat → Nat), k ≤ m ∧ x = .int .i64 k ∧ RowI wr gd m D ∧ RdI n m k v D p ∧ D = rdD n m v k ∧ Below w.heap.size w wr) (fun x _ => m - (intOf x).toNat)
  case atStart => exact ⟨0, fun _ => -1, fun _ => 0, Nat.zero_le _, rfl, HR1.out, RdI.start v, rfl, Hb1.out⟩
  case round =>
    obtain ⟨k, D, p, hk, rfl, hR, hP, hDe, hbel⟩ := hrel
    have HDe := Lib.hid hDe
    clear hDe
    by_cases hlt : k < m
    · obtain ⟨i, hi⟩ : ∃ i, i = k % n := ⟨_, rfl⟩
      have hin : i < n := by rw [hi]; exact Nat.mod_lt _ (by omega)
      have t1 : ((k : Int)).tmod (n : Int) = (i : Int) := by rw [hi]; exact tmod_nat2 k n
      have hn0 : (0 : Int) < n := by omega
      have hnz : ¬ (n : Int) = 0 := by omega
      obtain ⟨Ri, ci, hci, hVi⟩ := (HM.out.keep hbel).cell hin
      have HFv := Lib.hid (favx_any Ri _ m ci m (v i) D wr hVi hR.ints (by omega))
      have HI := Lib.hid hi
      have HR := Lib.hid hR
      have HP := Lib.hid hP
      have Hbel := Lib.hid hbel
      clear hVi hR hP hbel hi
      go_wp2_with fail
      refine HFv.out.mono ?_
      rintro e w2 ⟨x, rfl, hF, hxe, hD2⟩
      obtain ⟨g, hg, rfl, hDg, hbest⟩ := HP.out.fav hlt hF
      have HDn : Hid (upd D g (i : Int) = rdD n m v (k + 1)) := Lib.hid (by
        simp only [rdD]
        rw [← HDe.out, ← HI.out, ← hxe, Int.toNat_natCast])
      clear hxe
      have HNx := Lib.hid (HP.out.next (by omega) hg hDg (fun x hx he => by rw [← HI.out]; exact hbest x hx he))
      have hR2 := HR.out.dn hD2
      have hck := hR2.cell hg
      have hfz := hR2.frozen g
      have HR2 := Lib.hid (hR2.set g (i : Int))
      have hgd0 : w.heap.size ≤ gd := by rw [HGd.out]; exact Nat.le_refl _
      have Hb2 := Lib.hid ((Hbel.out.trans ((hD2.below _).mono Hbel.out.size)).setCell (p := ⟨gd, g, none⟩) hgd0 (.int .i64 (i : Int)))
      have hg0 : (0 : Int) ≤ g := by omega
      have hgm : (g : Int) < m := by omega
      clear hF hbest hR2 hgd0 hD2 t1 hci
      rw [← HI.out] at HNx
      go_wp2
      go_roundw
      case rel => exact ⟨k + 1, _, _, by omega, by go_num, HR2.out, HNx.out, HDn.out, Hb2.out⟩
      case measure => simp [intOf]; omega
    · obtain rfl : m = k := by omega
      have HR := Lib.hid hR
      clear hR hP
      go_wp2
      go_ret2
      exact ⟨_, _, D, rfl, HR.out.ints, HDe.out, hbel⟩

end Go.Proofs.Ytkgikehagkpmoaa
