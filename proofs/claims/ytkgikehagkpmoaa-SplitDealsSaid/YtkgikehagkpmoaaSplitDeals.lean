import Derived.Test.YtkgikehagkpmoaaRy
import Derived.Test.YtkgikehagkpmoaaDivd
import Derived.Test.YtkgikehagkpmoaaAwake
import Derived.Test.YtkgikehagkpmoaaFew
namespace Go.Proofs.Ytkgikehagkpmoaa
open Go.RowKit

theorem short9d (n : Nat) (L : Nat → Nat) : Short n (fun i => min (L i) 9) := fun _ _ => Nat.min_le_right _ _
theorem RoundsX (A : Option Addr) (k n m c : Nat) (L : Nat → Nat) (v : Nat → Nat → Int) (w : World) (h : Rows2 w A k L v) (hn : k ≤ 9) (hL : Short k L) (hok : okVals k L v = true) (hk : k = n) (hm : L 0 = m) :
    Calls Try.prog 12 #[.slice A k c] w fun e w' => ∃ Ax cx, e = .returned (.tuple #[.slice Ax m cx, .int .i64 0]) ∧ Ints w' Ax m (rdD n m v m) ∧ Below w.heap.size w w' := by
  subst hk hm
  refine (Rounds_ex A k c L v w h hn hL hok).mono ?_
  rintro e w' ⟨Ax, cx, D, rfl, h1, rfl, h2⟩
  exact ⟨Ax, cx, rfl, h1, h2⟩
theorem CyclesX (A : Option Addr) (k n m c : Nat) (L : Nat → Nat) (v : Nat → Nat → Int) (w : World) (h : Rows2 w A k L v) (hn : k ≤ 9) (hL : Short k L) (hok : okVals k L v = true) (hk : k = n) (hm : L 0 = m) :
    Calls Try.prog 14 #[.slice A k c] w fun e w' => ∃ Ax cx D, e = .returned (.tuple #[.slice Ax m cx, .int .i64 0]) ∧ Ints w' Ax m D ∧ CySeq n m v m D ∧ Below w.heap.size w w' := by
  subst hk hm
  exact Cycles_ex A k c L v w h hn hL hok
theorem eqB_id (n : Nat) (f : Nat → Int) : eqB n n f f = true := by
  simp only [eqB, decide_true, Bool.true_and]
  exact allB_t (fun g _ => by simp [eqP])

set_option maxHeartbeats 1000000 in
set_option maxRecDepth 1000000 in
theorem splitDeals_walk (A : Option Addr) (n c : Nat) (L : Nat → Nat) (v : Nat → Nat → Int) (W : World) (hv : ArgR W A n c L v) :
    Calls Try.prog 3 #[.slice A n c] W fun e W' => e = .returned (.bool true) ∧ Below W.heap.size W W' := by
  have hn9 : min n 6 ≤ 9 := by omega
  cases hok : okVals n L v with
  | false =>
    have HOk := Lib.hid hok
    have HF : Hid (okVals (min n 6) (fun i => min (L i) 9) v = false) := Lib.hid (okVals_few.trans hok)
    clear hok
    go_enter Try.func3, Try.ntmps3
    go_wp2_with fail
    refine (few_any A n c L v _ hv).mono ?_
    rintro e w1 ⟨x, rfl, hx, hb1⟩
    obtain ⟨A1, c1, rfl, hR1, -⟩ := hx.rows
    have Hb1 := Lib.hid hb1
    have HR1 := Lib.hid hR1
    clear hb1 hx hR1
    go_wp2_with fail
    refine (Rounds_bad _ _ _ _ v _ HR1.out hn9 (short9d _ _) HF.out).mono ?_
    rintro e w2 ⟨rfl, rfl⟩
    go_wp2_with fail
    refine (few_any A n c L v _ (hv.below Hb1.out)).mono ?_
    rintro e w2 ⟨x, rfl, hx, hb2⟩
    obtain ⟨A2, c2, rfl, hR2, -⟩ := hx.rows
    have Hb2 := Lib.hid (Hb1.out.trans (hb2.mono Hb1.out.size))
    have HR2 := Lib.hid hR2
    clear hb2 hx hR2
    go_wp2_with fail
    refine (Cycles_bad _ _ _ _ v _ HR2.out hn9 (short9d _ _) HF.out).mono ?_
    rintro e w3 ⟨rfl, rfl⟩
    go_wp2_with fail
    refine (rvalid_any _ _ _ L v _ (hv.below Hb2.out)).mono ?_
    rintro e w3 ⟨rfl, rfl⟩
    rw [HOk.out]
    go_wp2_with fail
    refine (awake_any _).mono ?_
    rintro e w4 ⟨rfl, hb4⟩
    have Hb4 := Lib.hid (Hb2.out.trans (hb4.mono Hb2.out.size))
    clear hb4
    go_wp2
    go_ret
    exact ⟨rfl, Hb4.out⟩
  | true =>
    obtain ⟨h1, h2, h3, h4, h5, h6⟩ := okVals_of hok
    have HOk := Lib.hid hok
    have HF : Hid (okVals (min n 6) (fun i => min (L i) 9) v = true) := Lib.hid (okVals_few.trans hok)
    have hmin : min n 6 = n := by omega
    have HMin := Lib.hid hmin
    have hL0 : (fun i => min (L i) 9) 0 = L 0 := Nat.min_eq_left (by omega)
    have HL0 := Lib.hid hL0
    have HMw := Lib.hid (okVals_mat hv.rows hok)
    have H6 := Lib.hid h6
    clear hok hmin hL0 h5 h6
    go_enter Try.func3, Try.ntmps3
    go_wp2_with fail
    refine (few_any A n c L v _ hv).mono ?_
    rintro e w1 ⟨x, rfl, hx, hb1⟩
    obtain ⟨A1, c1, rfl, hR1, -⟩ := hx.rows
    have Hb1 := Lib.hid hb1
    have HR1 := Lib.hid hR1
    clear hb1 hx hR1
    go_wp2_with fail
    refine (RoundsX A1 (min n 6) n (L 0) c1 _ v _ HR1.out hn9 (short9d _ _) HF.out HMin.out HL0.out).mono ?_
    rintro e w2 ⟨Aa, ca, rfl, hIa, hb2⟩
    have Hb2 := Lib.hid (Hb1.out.trans (hb2.mono Hb1.out.size))
    have HIa2 := Lib.hid hIa
    clear hb2 hIa
    go_wp2_with fail
    refine (few_any A n c L v _ (hv.below Hb2.out)).mono ?_
    rintro e w3 ⟨x, rfl, hx, hb3⟩
    obtain ⟨A3, c3, rfl, hR3, -⟩ := hx.rows
    have Hb3 := Lib.hid (Hb2.out.trans (hb3.mono Hb2.out.size))
    have HIa3 := Lib.hid (HIa2.out.keep hb3)
    have HR3 := Lib.hid hR3
    clear hb3 hx hR3
    go_wp2_with fail
    refine (CyclesX A3 (min n 6) n (L 0) c3 _ v _ HR3.out hn9 (short9d _ _) HF.out HMin.out HL0.out).mono ?_
    rintro e w4 ⟨Ab, cb, Db, rfl, hIb, hqb, hb4⟩
    have Hb4 := Lib.hid (Hb3.out.trans (hb4.mono Hb3.out.size))
    have HIa4 := Lib.hid (HIa3.out.keep hb4)
    have HIb4 := Lib.hid hIb
    have HQb := Lib.hid hqb
    clear hb4 hIb hqb
    go_wp2_with fail
    refine (rvalid_any _ _ _ L v _ (hv.below Hb4.out)).mono ?_
    rintro e w5 ⟨rfl, rfl⟩
    rw [HOk.out]
    go_wp2_with fail
    refine (rRounds_any A n (L 0) c v _ (HMw.out.keep Hb4.out) h1 (by omega) h3 (by omega)).mono ?_
    rintro e w5 ⟨Ac, cc, rfl, hIc, hb5⟩
    have Hb5 := Lib.hid (Hb4.out.trans (hb5.mono Hb4.out.size))
    have HIa5 := Lib.hid (HIa4.out.keep hb5)
    have HIb5 := Lib.hid (HIb4.out.keep hb5)
    have HIc5 := Lib.hid hIc
    clear hb5 hIc
    have HEq1 := Lib.hid (eqB_id (L 0) (rdD n (L 0) v (L 0)))
    go_wp2_with fail
    refine Ro.use (equal_any Aa Ac (L 0) (L 0) _ _ (rdD n (L 0) v (L 0)) (rdD n (L 0) v (L 0)) _ HIa5.out HIc5.out (by omega) (by omega)) ?_
    intro w6 hd6
    rw [HEq1.out]
    have Hb6 := Lib.hid (Hb5.out.trans ((hd6.below _).mono Hb5.out.size))
    have HIb6 := Lib.hid (HIb5.out.dn hd6)
    clear hd6
    go_wp2_with fail
    refine (rCycles_any A n (L 0) c v _ (HMw.out.keep Hb6.out) H6.out h1 h2 h3 h4).mono ?_
    rintro e w7 ⟨Ad, cd, Dd, rfl, hId, hqd, hb7⟩
    obtain rfl : Db = Dd := HQb.out.only hqd
    have Hb7 := Lib.hid (Hb6.out.trans (hb7.mono Hb6.out.size))
    have HIb7 := Lib.hid (HIb6.out.keep hb7)
    have HId7 := Lib.hid hId
    have HEq2 := Lib.hid (eqB_id (L 0) Db)
    clear hb7 hId hqd
    go_wp2_with fail
    refine Ro.use (equal_any Ab Ad (L 0) (L 0) _ _ Db Db _ HIb7.out HId7.out (by omega) (by omega)) ?_
    intro w8 hd8
    rw [HEq2.out]
    have Hb8 := Lib.hid (Hb7.out.trans ((hd8.below _).mono Hb7.out.size))
    clear hd8
    go_wp2_with fail
    refine (awake_any _).mono ?_
    rintro e w9 ⟨rfl, hb9⟩
    have Hb9 := Lib.hid (Hb8.out.trans (hb9.mono Hb8.out.size))
    clear hb9
    go_wp2
    go_ret
    exact ⟨rfl, Hb9.out⟩
end Go.Proofs.Ytkgikehagkpmoaa
