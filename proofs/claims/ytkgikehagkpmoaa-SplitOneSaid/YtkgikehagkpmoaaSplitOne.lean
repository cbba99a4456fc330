import Derived.Test.YtkgikehagkpmoaaNf
import Derived.Test.YtkgikehagkpmoaaAwake
import Derived.Test.YtkgikehagkpmoaaOkFew
import Derived.Test.YtkgikehagkpmoaaFew
namespace Go.Proofs.Ytkgikehagkpmoaa
open Go.RowKit

theorem short9o (n : Nat) (L : Nat → Nat) : Short n (fun i => min (L i) 9) := fun _ _ => Nat.min_le_right _ _
theorem RoundsO (A : Option Addr) (k n m c : Nat) (L : Nat → Nat) (v : Nat → Nat → Int) (w : World) (h : Rows2 w A k L v) (hn : k ≤ 9) (hL : Short k L) (hok : okVals k L v = true) (hk : k = n) (hm : L 0 = m) :
    Calls Try.prog 12 #[.slice A k c] w fun e w' => ∃ Ax cx D, e = .returned (.tuple #[.slice Ax m cx, .int .i64 0]) ∧ Ints w' Ax m D ∧ Own n m D ∧ Ef1 n m v D ∧ Below w.heap.size w w' := by
  subst hk hm
  exact Rounds_ok A k c L v w h hn hL hok
theorem CyclesO (A : Option Addr) (k n m c : Nat) (L : Nat → Nat) (v : Nat → Nat → Int) (w : World) (h : Rows2 w A k L v) (hn : k ≤ 9) (hL : Short k L) (hok : okVals k L v = true) (hk : k = n) (hm : L 0 = m) :
    Calls Try.prog 14 #[.slice A k c] w fun e w' => ∃ Ax cx D, e = .returned (.tuple #[.slice Ax m cx, .int .i64 0]) ∧ Ints w' Ax m D ∧ Own n m D ∧ Ef1 n m v D ∧ Below w.heap.size w w' := by
  subst hk hm
  exact Cycles_ok A k c L v w h hn hL hok
theorem NashO (A : Option Addr) (k n m c : Nat) (L : Nat → Nat) (v : Nat → Nat → Int) (w : World) (h : Rows2 w A k L v) (hn : k ≤ 9) (hL : Short k L) (hok : okVals k L v = true) (hk : k = n) (hm : L 0 = m) :
    Calls Try.prog 26 #[.slice A k c] w fun e w' => ∃ Ax cx D z, e = .returned (.tuple #[.slice Ax m cx, .int .i64 z, .int .i64 0]) ∧ Ints w' Ax m D ∧ Own n m D ∧ Ef1 n m v D ∧ Below w.heap.size w w' := by
  subst hk hm
  obtain ⟨h1, h2, h3, h4, h5, h6⟩ := okVals_of hok
  refine (Nash_ok A k c L v w h hn hL hok).mono ?_
  rintro e w' ⟨vb, rfl, hx, hb⟩
  obtain ⟨A', c', rfl, hI⟩ := hx.sl0
  exact ⟨A', c', _, _, rfl, hI, dg_own h1, nash_ef1 h1 h6, hb⟩
theorem FairO {A Ad : Option Addr} {k n m c cd : Nat} {L : Nat → Nat} {v : Nat → Nat → Int} {D : Nat → Int} {w : World} (h : Rows2 w A k L v) (hd : Ints w Ad m D) (hn : k ≤ 9) (hL : Short k L) (hm9 : m ≤ 9) (hok : okVals k L v = true) (hk : k = n) (hm : L 0 = m) (hO : Own n m D) (hE : Ef1 n m v D) :
    Ro 30 #[.slice A k c, .slice Ad m cd, .int .i64 1] w (.tuple #[.bool true, .int .i64 0]) := by
  subst hk hm
  have ho : okDiv k L v (L 0) D = true := by
    simp only [okDiv, hok, Bool.true_and, decide_eq_true_eq]
    exact ⟨trivial, hO⟩
  have hf := Fair_ok A Ad k c (L 0) cd L v D 1 w h hd hn hL hm9 ho (by omega) (by omega)
  rw [ef1_fair hE] at hf
  exact hf

set_option maxHeartbeats 1000000 in
set_option maxRecDepth 1000000 in
theorem splitOne_walk (A : Option Addr) (n c : Nat) (L : Nat → Nat) (v : Nat → Nat → Int) (W : World) (hv : ArgR W A n c L v) :
    Calls Try.prog 6 #[.slice A n c] W fun e W' => e = .returned (.bool true) ∧ Below W.heap.size W W' := by
  have hn9 : min n 6 ≤ 9 := by omega
  cases hok : okVals n L v with
  | false =>
    have HF : Hid (okVals (min n 6) (fun i => min (L i) 9) v = false) := Lib.hid (okVals_few.trans hok)
    clear hok
    go_enter Try.func6, Try.ntmps6
    go_wp2_with fail
    refine (few_any A n c L v _ hv).mono ?_
    rintro e w1 ⟨x, rfl, hx, hb1⟩
    obtain ⟨A1, c1, rfl, hR1, -⟩ := hx.rows
    have Hb1 := Lib.hid hb1
    have HR1 := Lib.hid hR1
    clear hb1 hx hR1
    go_wp2_with fail
    refine (Rounds_bad _ _ _ _ v _ HR1.out hn9 (short9o _ _) HF.out).mono ?_
    rintro e w2 ⟨rfl, rfl⟩
    go_wp2_with fail
    refine (few_any A n c L v _ (hv.below Hb1.out)).mono ?_
    rintro e w2 ⟨x, rfl, hx, hb2⟩
    obtain ⟨A2, c2, rfl, hR2, -⟩ := hx.rows
    have Hb2 := Lib.hid (Hb1.out.trans (hb2.mono Hb1.out.size))
    have HR2 := Lib.hid hR2
    clear hb2 hx hR2
    go_wp2_with fail
    refine (Cycles_bad _ _ _ _ v _ HR2.out hn9 (short9o _ _) HF.out).mono ?_
    rintro e w3 ⟨rfl, rfl⟩
    go_wp2_with fail
    refine (few_any A n c L v _ (hv.below Hb2.out)).mono ?_
    rintro e w3 ⟨x, rfl, hx, hb3⟩
    obtain ⟨A3, c3, rfl, hR3, -⟩ := hx.rows
    have Hb3 := Lib.hid (Hb2.out.trans (hb3.mono Hb2.out.size))
    have HR3 := Lib.hid hR3
    clear hb3 hx hR3
    go_wp2_with fail
    refine (Nash_bad _ _ _ _ v _ HR3.out hn9 (short9o _ _) HF.out).mono ?_
    rintro e w4 ⟨rfl, rfl⟩
    go_wp2_with fail
    refine (awake_any _).mono ?_
    rintro e w4 ⟨rfl, hb4⟩
    have Hb4 := Lib.hid (Hb3.out.trans (hb4.mono Hb3.out.size))
    clear hb4
    go_wp2
    go_ret
    exact ⟨rfl, Hb4.out⟩
  | true =>
    obtain ⟨h1, h2, h3, h4, h5, h6⟩ := okVals_of hok
    have HF : Hid (okVals (min n 6) (fun i => min (L i) 9) v = true) := Lib.hid (okVals_few.trans hok)
    have hmin : min n 6 = n := by omega
    have HMin := Lib.hid hmin
    have hL0 : (fun i => min (L i) 9) 0 = L 0 := Nat.min_eq_left (by omega)
    have HL0 := Lib.hid hL0
    have HV := Lib.hid hv
    clear hok hmin hL0 h5 h6 hv
    go_enter Try.func6, Try.ntmps6
    go_wp2_with fail
    refine (few_any _ n c L v _ HV.out).mono ?_
    rintro e w1 ⟨x, rfl, hx, hb1⟩
    obtain ⟨A1, c1, rfl, hR1, -⟩ := hx.rows
    have Hb1 := Lib.hid hb1
    have HR1 := Lib.hid hR1
    clear hb1 hx hR1
    go_wp2_with fail
    refine (RoundsO A1 (min n 6) n (L 0) c1 _ v _ HR1.out hn9 (short9o _ _) HF.out HMin.out HL0.out).mono ?_
    rintro e w2 ⟨Aa, ca, Da, rfl, hIa, hOa, hEa, hb2⟩
    have Hb2 := Lib.hid (Hb1.out.trans (hb2.mono Hb1.out.size))
    have HIa2 := Lib.hid hIa
    have HOa := Lib.hid hOa
    have HEa := Lib.hid hEa
    clear hb2 hIa hOa hEa
    go_wp2_with fail
    refine (few_any _ n c L v _ (HV.out.below Hb2.out)).mono ?_
    rintro e w3 ⟨x, rfl, hx, hb3⟩
    obtain ⟨A3, c3, rfl, hR3, -⟩ := hx.rows
    have Hb3 := Lib.hid (Hb2.out.trans (hb3.mono Hb2.out.size))
    have HIa3 := Lib.hid (HIa2.out.keep hb3)
    have HR3 := Lib.hid hR3
    clear hb3 hx hR3
    go_wp2_with fail
    refine (CyclesO A3 (min n 6) n (L 0) c3 _ v _ HR3.out hn9 (short9o _ _) HF.out HMin.out HL0.out).mono ?_
    rintro e w4 ⟨Ab, cb, Db, rfl, hIb, hOb, hEb, hb4⟩
    have Hb4 := Lib.hid (Hb3.out.trans (hb4.mono Hb3.out.size))
    have HIa4 := Lib.hid (HIa3.out.keep hb4)
    have HIb4 := Lib.hid hIb
    have HOb := Lib.hid hOb
    have HEb := Lib.hid hEb
    clear hb4 hIb hOb hEb
    go_wp2_with fail
    refine (few_any _ n c L v _ (HV.out.below Hb4.out)).mono ?_
    rintro e w5 ⟨x, rfl, hx, hb5⟩
    obtain ⟨A5, c5, rfl, hR5, -⟩ := hx.rows
    have Hb5 := Lib.hid (Hb4.out.trans (hb5.mono Hb4.out.size))
    have HIa5 := Lib.hid (HIa4.out.keep hb5)
    have HIb5 := Lib.hid (HIb4.out.keep hb5)
    have HR5 := Lib.hid hR5
    clear hb5 hx hR5
    go_wp2_with fail
    refine (NashO A5 (min n 6) n (L 0) c5 _ v _ HR5.out hn9 (short9o _ _) HF.out HMin.out HL0.out).mono ?_
    rintro e w6 ⟨Ac, cc, Dc, z, rfl, hIc, hOc, hEc, hb6⟩
    have Hb6 := Lib.hid (Hb5.out.trans (hb6.mono Hb5.out.size))
    have HIa6 := Lib.hid (HIa5.out.keep hb6)
    have HIb6 := Lib.hid (HIb5.out.keep hb6)
    have HIc6 := Lib.hid hIc
    have HOc := Lib.hid hOc
    have HEc := Lib.hid hEc
    clear hb6 hIc hOc hEc
    go_wp2_with fail
    obtain ⟨wI, hwI⟩ : ∃ wI : World, wI = w6.alloc (.cells #[.slice Aa (L 0) ca, .slice Ab (L 0) cb, .slice Ac (L 0) cc] 23) := ⟨_, rfl⟩
    obtain ⟨P, hP⟩ : ∃ P, P = w6.heap.size := ⟨_, rfl⟩
    have hbI : Below w6.heap.size w6 wI := by rw [hwI]; exact (Below.refl _ _).alloc (Nat.le_refl _) _
    have p0 : wI.cell? ⟨P, 0, none⟩ = some (.slice Aa (L 0) ca) := by rw [hwI, hP]; simp [World.cell?_alloc_at]
    have p1 : wI.cell? ⟨P, 1, none⟩ = some (.slice Ab (L 0) cb) := by rw [hwI, hP]; simp [World.cell?_alloc_at]
    have p2 : wI.cell? ⟨P, 2, none⟩ = some (.slice Ac (L 0) cc) := by rw [hwI, hP]; simp [World.cell?_alloc_at]
    rw [← hwI, ← hP]
    have HCell : Hid (∀ k, k < 3 → ∃ Ad cd D, wI.cell? ⟨P, k, none⟩ = some (.slice Ad (L 0) cd) ∧ Ints wI Ad (L 0) D ∧ Own n (L 0) D ∧ Ef1 n (L 0) v D) := Lib.hid (fun k hk => by
      have : k = 0 ∨ k = 1 ∨ k = 2 := by omega
      rcases this with rfl | rfl | rfl
      · exact ⟨_, _, Da, p0, HIa6.out.keep hbI, HOa.out, HEa.out⟩
      · exact ⟨_, _, Db, p1, HIb6.out.keep hbI, HOb.out, HEb.out⟩
      · exact ⟨_, _, Dc, p2, HIc6.out.keep hbI, HOc.out, HEc.out⟩)
    have HbI := Lib.hid (Hb6.out.trans (hbI.mono Hb6.out.size))
    clear hwI hP hbI p0 p1 p2
    go_loopw [53] (fun x wr => ∃ k : Nat, k ≤ 3 ∧ x = .int .i64 k ∧ Below wI.heap.size wI wr) (fun x _ => 3 - (intOf x).toNat)
    case atStart => exact ⟨0, Nat.zero_le _, rfl, Below.refl _ _⟩
    case round =>
      obtain ⟨k, hk, rfl, hbel⟩ := hrel
      by_cases hlt : k < 3
      · obtain ⟨Ad, cd, D, hcell, hId, hOd, hEd⟩ := HCell.out k hlt
        have hck := (hbel.cell (World.block_lt_of_cell? _ _ hcell)).trans hcell
        have Hbel := Lib.hid hbel
        have HId := Lib.hid (hId.keep hbel)
        have HOd := Lib.hid hOd
        have HEd := Lib.hid hEd
        clear hcell hId hOd hEd hbel
        go_wp2_with fail
        refine (few_any _ n c L v _ (HV.out.below (HbI.out.trans (Hbel.out.mono HbI.out.size)))).mono ?_
        rintro e w8 ⟨x, rfl, hx, hb8⟩
        obtain ⟨A8, c8, rfl, hR8, -⟩ := hx.rows
        have Hb8 := Lib.hid (Hbel.out.trans (hb8.mono Hbel.out.size))
        have HId8 := Lib.hid (HId.out.keep hb8)
        have HR8 := Lib.hid hR8
        clear hb8 hx hR8 hck
        go_wp2_with fail
        refine Ro.use (FairO HR8.out HId8.out hn9 (short9o _ _) (by omega) HF.out HMin.out HL0.out HOd.out HEd.out) ?_
        intro w9 hd9
        have Hb9 := Lib.hid (Hb8.out.trans ((hd9.below _).mono Hb8.out.size))
        clear hd9
        go_wp2
        go_roundw
        case rel => exact ⟨k + 1, by omega, by go_num, Hb9.out⟩
        case measure => simp [intOf]; omega
      · obtain rfl : k = 3 := by omega
        have HbW := Lib.hid (HbI.out.trans (hbel.mono HbI.out.size))
        clear hbel
        go_wp2_with fail
        refine (awake_any _).mono ?_
        rintro e w9 ⟨rfl, hb9⟩
        have Hb9 := Lib.hid (HbW.out.trans (hb9.mono HbW.out.size))
        clear hb9
        go_wp2
        go_ret
        exact ⟨rfl, Hb9.out⟩
end Go.Proofs.Ytkgikehagkpmoaa
