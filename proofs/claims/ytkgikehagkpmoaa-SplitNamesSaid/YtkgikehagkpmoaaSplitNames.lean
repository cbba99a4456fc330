import Derived.Test.YtkgikehagkpmoaaNm3
import Derived.Test.YtkgikehagkpmoaaDivd
import Derived.Test.YtkgikehagkpmoaaAwake
import Derived.Test.YtkgikehagkpmoaaFew
import Derived.IntWalk
import Derived.Deep.RegionHeld3
namespace Go.Proofs.Ytkgikehagkpmoaa
open Go.RowKit

theorem short9n (n : Nat) (L : Nat → Nat) : Short n (fun i => min (L i) 9) := fun _ _ => Nat.min_le_right _ _

set_option maxHeartbeats 1000000 in
set_option maxRecDepth 1000000 in
theorem splitNames_bad (A : Option Addr) (n c : Nat) (L : Nat → Nat) (v : Nat → Nat → Int) (D : Option Addr) (nd cd : Nat) (d : Nat → Int) (a b : Int) (W : World) (hv : ArgR W A n c L v) (hd : ArgI W D nd cd d) (hok : okDiv n L v nd d = false) :
    Calls Try.prog 10 #[.slice A n c, .slice D nd cd, .int .i64 a, .int .i64 b] W fun e W' => e = .returned (.bool true) ∧ Below W.heap.size W W' := by
  have HO2 : Hid (okDiv (min n 6) (fun i => min (L i) 9) v (min nd 9) d = false) := Lib.hid (okDiv_few.trans hok)
  clear hok
  go_enter Try.func10, Try.ntmps10
  go_wp2_with fail
  refine (few_any A n c L v _ hv).mono ?_
  rintro e w1 ⟨x, rfl, hx, hb1⟩
  obtain ⟨A1, c1, rfl, hR1, -⟩ := hx.rows
  have Hb1 := Lib.hid hb1
  have HR1 := Lib.hid hR1
  clear hb1 hx hR1
  go_wp2_with fail
  refine (list_any D nd cd d _ (hd.below Hb1.out)).mono ?_
  rintro e w2 ⟨y, rfl, hy, hb2⟩
  obtain ⟨D2, c2, rfl, hI2⟩ := hy.sl0
  have Hb2 := Lib.hid (Hb1.out.trans (hb2.mono Hb1.out.size))
  have HR2 := Lib.hid (HR1.out.keep hb2)
  clear hb2 hy
  go_wp2_with fail
  refine Ro.use (Envy_bad _ _ _ _ _ _ _ v d _ HR2.out hI2 (by omega) (short9n _ _) (by omega) HO2.out) ?_
  intro w3 hd3
  have Hb3 := Lib.hid (Hb2.out.trans ((hd3.below _).mono Hb2.out.size))
  clear hI2 HR2 hd3
  go_wp2_with fail
  refine (awake_any _).mono ?_
  rintro e w7 ⟨rfl, hb7⟩
  have Hb7 := Lib.hid (Hb3.out.trans (hb7.mono Hb3.out.size))
  clear hb7
  go_wp2
  go_ret
  exact ⟨rfl, Hb7.out⟩

theorem Envy_few {A D : Option Addr} {k n c kd md c' : Nat} {L : Nat → Nat} {v : Nat → Nat → Int} {d : Nat → Int} {w : World} (h : Rows2 w A k L v) (hd : Ints w D kd d) (hk : k = n) (hkd : kd = md) (hn : n ≤ 9) (hL : Short n L) (hmd : md ≤ 9) (hok : okDiv n L v md d = true) :
    Calls Try.prog 33 #[.slice A k c, .slice D kd c'] w fun e w' => ∃ Ax cx, e = .returned (.tuple #[.slice Ax (envAll n md v d n).length cx, .int .i64 0]) ∧ Prs w' Ax (envAll n md v d n) ∧ Below w.heap.size w w' := by
  subst hk hkd
  refine (Envy_ok A D k c kd c' L v d w h hd hn hL hmd hok).mono ?_
  rintro e w' ⟨x, rfl, h1, h2⟩
  obtain ⟨Ax, cx, rfl, h3⟩ := h1.prs
  exact ⟨Ax, cx, rfl, h3, h2⟩

theorem Fair_few {A D : Option Addr} {k n c kd md c' : Nat} {L : Nat → Nat} {v : Nat → Nat → Int} {d : Nat → Int} {kind : Int} {w : World} (h : Rows2 w A k L v) (hd : Ints w D kd d) (hk : k = n) (hkd : kd = md) (hn : n ≤ 9) (hL : Short n L) (hmd : md ≤ 9) (hok : okDiv n L v md d = true) (hk0 : 0 ≤ kind) (hk5 : kind ≤ 4) :
    Ro 30 #[.slice A k c, .slice D kd c', .int .i64 kind] w (.tuple #[.bool (allB (fairToB n md v d kind) n), .int .i64 0]) := by
  subst hk hkd
  exact Fair_ok A D k c kd c' L v d kind w h hd hn hL hmd hok hk0 hk5

/-- What the law's first numbers become. -/
theorem u64_wrap (a : Int) : ∃ U : Nat, IntKind.u64.wrap a = (U : Int) := by
  refine ⟨(IntKind.u64.wrap a).toNat, ?_⟩
  have : 0 ≤ IntKind.u64.wrap a := by
    have h : IntKind.u64.signed = false := rfl
    simp only [IntKind.wrap, h]
    exact Int.emod_nonneg _ (by decide)
  omega
theorem tmod_nat (x n : Nat) : ((x : Int)).tmod (n : Int) = ((x % n : Nat) : Int) := by
  rw [Int.tmod_eq_emod_of_nonneg (by omega)]
  exact (Int.natCast_emod x n).symm
theorem tmod_rot {n b i : Nat} (hb : b < n) (hi : i < n) : ((i : Int) + (b : Int)).tmod (n : Int) = ((rotN n b i : Nat) : Int) := by
  have h := tmod_nat (i + b) n
  rw [rotN_mod hb hi] at h
  rw [← h]
  congr 1

theorem okDiv_mk {n m : Nat} {v : Nat → Nat → Int} {d : Nat → Int} (h1 : 1 ≤ n) (h2 : n ≤ 4) (h3 : 1 ≤ m) (h4 : m ≤ 7) (hb : BdM n m v 100) (hO : Own n m d) : okDiv n (fun _ => m) v m d = true := by
  simp only [okDiv, okVals, Bool.and_eq_true, decide_eq_true_eq]
  refine ⟨⟨h1, h2, fun i hi => ⟨?_, ?_⟩⟩, ?_, hO⟩
  · simp only [okRow, decide_eq_true_eq]
    exact ⟨h3, h4, hb i hi⟩
  · first | trivial | rfl
  · first | trivial | rfl
/-- The state when k goods have been renamed. -/
def NmI (w4 : World) (n m by_ go XB : Nat) (v : Nat → Nat → Int) (d : Nat → Int) (k : Nat) (w : World) : Prop :=
  ∃ (Wm : Nat → Nat → Int) (X : Nat → Int), MatO w w4.heap.size n m Wm ∧ RowI w XB m X ∧ (∀ g, g < k → X (rotN m go g) = ((rotN n by_ (d g).toNat : Nat) : Int)) ∧ (∀ g, g < k → ∀ i, i < n → Wm (rotN n by_ i) (rotN m go g) = v i g) ∧ Below w4.heap.size w4 w

set_option maxHeartbeats 1000000 in
set_option maxRecDepth 1000000 in
theorem splitNames_good (A : Option Addr) (n c : Nat) (L : Nat → Nat) (v : Nat → Nat → Int) (D : Option Addr) (nd cd : Nat) (d : Nat → Int) (a b : Int) (W : World) (hv : ArgR W A n c L v) (hd : ArgI W D nd cd d) (hok : okDiv n L v nd d = true) :
    Calls Try.prog 10 #[.slice A n c, .slice D nd cd, .int .i64 a, .int .i64 b] W fun e W' => e = .returned (.bool true) ∧ Below W.heap.size W W' := by
  have hO := okDiv_of hok
  obtain ⟨h1, h2, h3, h4, h5, h6⟩ := okVals_of hO.1
  obtain ⟨m, hm⟩ : ∃ m, m = L 0 := ⟨_, rfl⟩
  have hnd := hO.2.1
  rw [← hm] at h3 h4 h6 hnd
  have HO2 : Hid (okDiv n (fun i => min (L i) 9) v nd d = true) := Lib.hid (by
    have h := okDiv_few.trans hok
    rw [show min n 6 = n by omega, show min nd 9 = nd by omega] at h
    exact h)
  have HM := Lib.hid (okVals_mat hv.rows hO.1)
  rw [← hm] at HM
  have HOwn := Lib.hid hO.2.2
  have HOk := Lib.hid hok
  have H6 := Lib.hid h6
  have HV := Lib.hid hv
  have HD := Lib.hid hd
  obtain ⟨bv, ov, Rv0, cv0, rfl, -, -⟩ := hv.rows.at h1
  have hmn : (n : Int) ≤ 4 := by omega
  have hnd2 := hnd.symm
  subst hnd2
  have HML := Lib.hid hm
  clear hO h5 h6 hok hv hd hm
  go_enter Try.func10, Try.ntmps10
  go_wp2_with fail
  refine (few_any _ n c L v _ HV.out).mono ?_
  rintro e w1 ⟨x, rfl, hx, hb1⟩
  obtain ⟨A1, c1, rfl, hR1, -⟩ := hx.rows
  have Hb1 := Lib.hid hb1
  have HR1 := Lib.hid hR1
  clear hb1 hx hR1
  go_wp2_with fail
  refine (list_any D m cd d _ (HD.out.below Hb1.out)).mono ?_
  rintro e w2 ⟨y, rfl, hy, hb2⟩
  obtain ⟨D2, c2, rfl, hI2⟩ := hy.sl0
  have Hb2 := Lib.hid (Hb1.out.trans (hb2.mono Hb1.out.size))
  have HR2 := Lib.hid (HR1.out.keep hb2)
  have HI2 := Lib.hid hI2
  clear hb2 hy hI2
  go_wp2_with fail
  refine (Envy_few HR2.out HI2.out (show min n 6 = n by omega) (show min m 9 = m by omega) (by omega) (short9n _ _) (by omega) HO2.out).mono ?_
  rintro e w3 ⟨Ax, cx, rfl, hP, hb3⟩
  have Hb3 := Lib.hid (Hb2.out.trans (hb3.mono Hb2.out.size))
  have HP3 := Lib.hid hP
  clear hb3 hP
  go_wp2_with fail
  refine (divided_any _ _ _ _ _ _ L v d _ (HV.out.below Hb3.out) (HD.out.below Hb3.out)).mono ?_
  rintro e w' ⟨rfl, rfl⟩
  rw [HOk.out]
  obtain ⟨R0, c0, hc0, -⟩ := (HM.out.keep Hb3.out).cell0 h1
  have hn0 : (0 : Int) < n := by omega
  have hm0 : (0 : Int) < m := by omega
  go_wp2_with fail
  go_quiet (fail)
  have Hb3a := Lib.hid (Hb3.out.trans ((Dn.below ⟨nq, rfl⟩ w3.heap.size : Below w3.heap.size w3 (w3.drewN nq)).mono Hb3.out.size))
  have HP3a : Hid (Prs (w3.drewN nq) Ax (envAll n m v d n)) := Lib.hid (HP3.out.dn ⟨nq, rfl⟩)
  generalize w3.drewN nq = w3a at *
  clear hc0
  obtain ⟨U, hU⟩ := u64_wrap a
  obtain ⟨V, hV⟩ := u64_wrap b
  obtain ⟨BY, hBY⟩ : ∃ BY, BY = U % n := ⟨_, rfl⟩
  obtain ⟨GO, hGO⟩ : ∃ GO, GO = V % m := ⟨_, rfl⟩
  have hBYn : BY < n := by rw [hBY]; exact Nat.mod_lt _ h1
  have hGOm : GO < m := by rw [hGO]; exact Nat.mod_lt _ h3
  have hTa : (U : Int).tmod (n : Int) = (BY : Int) := by rw [hBY]; exact tmod_nat U n
  have hTb : (V : Int).tmod (m : Int) = (GO : Int) := by rw [hGO]; exact tmod_nat V m
  clear hBY hGO
  go_wp2_with fail
  go_quiet (fail)
  have Hb4 := Lib.hid (Hb3a.out.trans ((Dn.below ⟨nq, rfl⟩ w3a.heap.size : Below w3a.heap.size w3a (w3a.drewN nq)).mono Hb3a.out.size))
  have HP4 : Hid (Prs (w3a.drewN nq) Ax (envAll n m v d n)) := Lib.hid (HP3a.out.dn ⟨nq, rfl⟩)
  generalize w3a.drewN nq = w4 at *
  have hmkr := mk_rows n (by omega)
  have hmki := mk_ints m (by omega)
  clear hU hV hTa hTb
  go_wp2_with fail
  have HMkI0 := Lib.hid (MkI.start w4 n m)
  have HBl0 := Lib.hid ((Below.refl w4.heap.size w4).alloc (Nat.le_refl _) (.cells (madeCells #[.slice none 0 0] n) 23))
  clear hmkr
  go_loopw [70] (fun i wr => ∃ k : Nat, k ≤ n ∧ i = .int .i64 k ∧ MkI wr w4.heap.size n m k ∧ Below w4.heap.size w4 wr) (fun i _ => n - (intOf i).toNat)
  case atStart => exact ⟨0, Nat.zero_le _, rfl, HMkI0.out, HBl0.out⟩
  case round =>
    obtain ⟨k, hk, rfl, hI, hbel⟩ := hrel
    by_cases hlt : k < n
    · have hr := World.rowIs.alloc hI.1 (.cells (madeCells #[.int .i64 0] m) 3)
      have hcl := World.rowIs.cell hr hlt
      have hfz := World.rowIs.frozen hr k
      rw [if_neg (by omega)] at hcl
      have HNx := Lib.hid (hI.next hlt)
      have HBn := Lib.hid ((hbel.alloc hbel.size (.cells (madeCells #[.int .i64 0] m) 3)).setCell (p := ⟨w4.heap.size, k, none⟩) (Nat.le_refl _) (.slice (some ⟨wr.heap.size, 0, none⟩) m m))
      clear hI hr hbel
      go_wp2
      go_roundw
      case rel => exact ⟨k + 1, by omega, by go_num, HNx.out, HBn.out⟩
      case measure => simp [intOf]; omega
    · obtain rfl : n = k := by omega
      obtain ⟨hMO, hsz⟩ := hI.done
      have HMO := Lib.hid hMO
      have HSz := Lib.hid hsz
      have Hbl := Lib.hid hbel
      clear hI hMO hsz hbel
      go_wp2_with fail
      obtain ⟨XB, hXB⟩ : ∃ XB, XB = wr.heap.size := ⟨_, rfl⟩
      have hx0 : RowI (wr.alloc (.cells (madeCells #[.int .i64 0] m) 3)) XB m (fun _ => 0) := by rw [hXB]; exact RowI.made wr m
      rw [← hXB]
      have HXB : Hid (XB = w4.heap.size + 1 + n) := Lib.hid (by rw [hXB]; exact HSz.out)
      have hm0' : MatO (wr.alloc (.cells (madeCells #[.int .i64 0] m) 3)) w4.heap.size n m (fun _ _ => 0) := HMO.out.keep ((Below.refl _ _).alloc (Nat.le_refl _) _)
      have hb0' : Below w4.heap.size w4 (wr.alloc (.cells (madeCells #[.int .i64 0] m) 3)) := Hbl.out.alloc Hbl.out.size _
      generalize wr.alloc (.cells (madeCells #[.int .i64 0] m) 3) = w5 at *
      have HX0 := Lib.hid hx0
      have HM0 := Lib.hid hm0'
      have HB0 := Lib.hid hb0'
      clear hXB hx0 hm0' hb0' hmki HMO HSz Hbl
      go_loopw [83] (fun x wr => ∃ k : Nat, k ≤ m ∧ x = .int .i64 k ∧ NmI w4 n m BY GO XB v d k wr) (fun x _ => m - (intOf x).toNat)
      case atStart => exact ⟨0, Nat.zero_le _, rfl, _, _, HM0.out, HX0.out, fun g hg => absurd hg (by omega), fun g hg => absurd hg (by omega), HB0.out⟩
      case round =>
        obtain ⟨k, hk, rfl, hI⟩ := hrel
        by_cases hlt : k < m
        · obtain ⟨Wm, X, hWm, hX, hXk, hWk, hbel⟩ := hI
          obtain ⟨bd, od, rfl, hdc⟩ := (HD.out.below (Hb4.out.trans (hbel.mono Hb4.out.size))).2.2.2.at hlt
          obtain ⟨j, hj⟩ : ∃ j : Nat, d k = j := ⟨(d k).toNat, by have := (HOwn.out k hlt).1; omega⟩
          have hjn : j < n := by have := (HOwn.out k hlt).2; omega
          rw [hj] at hdc
          obtain ⟨T, hT⟩ : ∃ T, T = rotN m GO k := ⟨_, rfl⟩
          obtain ⟨S, hS⟩ : ∃ S, S = rotN n BY j := ⟨_, rfl⟩
          have hTm : T < m := by rw [hT]; exact rotN_lt hGOm hlt
          have hSn : S < n := by rw [hS]; exact rotN_lt hBYn hjn
          have t1 : ((k : Int) + (GO : Int)).tmod (m : Int) = (T : Int) := by rw [hT]; exact tmod_rot hGOm hlt
          have t2 : ((j : Int) + (BY : Int)).tmod (n : Int) = (S : Int) := by rw [hS]; exact tmod_rot hBYn hjn
          have u1 : IntKind.i64.wrap ((k : Int) + (GO : Int)) = (k : Int) + (GO : Int) := IntWalk.i64_in _ ⟨by omega, by omega⟩
          have u2 : IntKind.i64.wrap ((j : Int) + (BY : Int)) = (j : Int) + (BY : Int) := IntWalk.i64_in _ ⟨by omega, by omega⟩
          have b1 : (T : Int) < m := by omega
          have b0 : (0 : Int) ≤ T := by omega
          have xc := hX.cell hTm
          have xf := hX.frozen T
          have HT := Lib.hid hT
          have HS := Lib.hid hS
          have HJ := Lib.hid hj
          have HWm := Lib.hid hWm
          have HX := Lib.hid hX
          have HXk := Lib.hid hXk
          have HWk := Lib.hid hWk
          have Hbel := Lib.hid hbel
          clear hT hS hj hWm hX hXk hWk hbel
          go_wp2_with fail
          go_region
          have hM6 : MatO (wr.setCell ⟨XB, T, none⟩ (.int .i64 S)).drew w4.heap.size n m Wm := (HWm.out.other (by have := HXB.out; omega) T (.int .i64 S)).keep ((Below.refl _ _).drew)
          have hX6 : RowI (wr.setCell ⟨XB, T, none⟩ (.int .i64 S)).drew XB m (upd X T S) := (HX.out.set T S).drew
          have hb6 : Below w4.heap.size w4 (wr.setCell ⟨XB, T, none⟩ (.int .i64 S)).drew := (Hbel.out.setCell (by have := HXB.out; show w4.heap.size ≤ XB; omega) _).drew
          generalize (wr.setCell ⟨XB, T, none⟩ (.int .i64 S)).drew = w6 at *
          have HX6 : Hid (∀ g, g < k + 1 → upd X T S (rotN m GO g) = ((rotN n BY (d g).toNat : Nat) : Int)) := Lib.hid (fun g hg => by
            rcases Nat.lt_or_ge g k with h | h
            · rw [upd_ne _ _ (fun e => by
                rw [HT.out] at e
                have := rotN_inj hGOm (by omega) hlt e
                omega)]
              exact HXk.out g h
            · obtain rfl : g = k := by omega
              rw [← HT.out, upd_at, HJ.out, HS.out]
              rfl)
          have HM6 := Lib.hid hM6
          have HR6 := Lib.hid hX6
          have Hb6 := Lib.hid hb6
          clear hM6 hX6 hb6 xc xf hdc t2 u2
          go_wp2_with fail
          go_loopw [102] (fun x wi => ∃ i : Nat, i ≤ n ∧ x = .int .i64 i ∧ ∃ Wi, MatO wi w4.heap.size n m Wi ∧ RowI wi XB m (upd X T S) ∧ (∀ g, g < k → ∀ i', i' < n → Wi (rotN n BY i') (rotN m GO g) = v i' g) ∧ (∀ i', i' < i → Wi (rotN n BY i') T = v i' k) ∧ Below w4.heap.size w4 wi) (fun x _ => n - (intOf x).toNat)
          case atStart => exact ⟨0, Nat.zero_le _, rfl, Wm, HM6.out, HR6.out, HWk.out, fun i' hi' => absurd hi' (by omega), Hb6.out⟩
          case round =>
            obtain ⟨i, hi, rfl, Wi, hWi, hRi, hWk2, hWi2, hbi⟩ := hrel
            by_cases hlt2 : i < n
            · obtain ⟨Si, hSi⟩ : ∃ Si, Si = rotN n BY i := ⟨_, rfl⟩
              have hSin : Si < n := by rw [hSi]; exact rotN_lt hBYn hlt2
              have t3 : ((i : Int) + (BY : Int)).tmod (n : Int) = (Si : Int) := by rw [hSi]; exact tmod_rot hBYn hlt2
              have u3 : IntKind.i64.wrap ((i : Int) + (BY : Int)) = (i : Int) + (BY : Int) := IntWalk.i64_in _ ⟨by omega, by omega⟩
              have b3 : (Si : Int) < n := by omega
              have b4 : (0 : Int) ≤ Si := by omega
              have b5 : (i : Int) < n := by omega
              have b6 : (0 : Int) ≤ i := by omega
              have b7 : (k : Int) < m := by omega
              have b8 : (0 : Int) ≤ k := by omega
              have wc := World.rowIs.cell hWi.1 hSin
              have rc := (hWi.2 Si hSin).cell hTm
              have rf := (hWi.2 Si hSin).frozen T
              obtain ⟨Rr, cr, vc, hVr⟩ := (HM.out.keep (Hb4.out.trans (hbi.mono Hb4.out.size))).cell hlt2
              obtain ⟨br, orr, rfl, vrc⟩ := hVr.at hlt
              have HSi := Lib.hid hSi
              have HWi := Lib.hid hWi
              have HRi := Lib.hid hRi
              have HWk2 := Lib.hid hWk2
              have HWi2 := Lib.hid hWi2
              have Hbi := Lib.hid hbi
              clear hSi hWi hRi hWk2 hWi2 hbi hVr
              go_wp2_with fail
              go_region
              have hM7 : MatO (wr.setCell ⟨w4.heap.size + 1 + Si, T, none⟩ (.int .i64 (v i k))).drew w4.heap.size n m (updM Wi Si T (v i k)) := (HWi.out.set T (v i k)).keep ((Below.refl _ _).drew)
              have hR7 : RowI (wr.setCell ⟨w4.heap.size + 1 + Si, T, none⟩ (.int .i64 (v i k))).drew XB m (upd X T S) := (HRi.out.setOther (by have := HXB.out; show XB ≠ w4.heap.size + 1 + Si; omega) _).drew
              have hb7 : Below w4.heap.size w4 (wr.setCell ⟨w4.heap.size + 1 + Si, T, none⟩ (.int .i64 (v i k))).drew := (Hbi.out.setCell (by show w4.heap.size ≤ w4.heap.size + 1 + Si; omega) _).drew
              generalize (wr.setCell ⟨w4.heap.size + 1 + Si, T, none⟩ (.int .i64 (v i k))).drew = w7 at *
              have HM7 := Lib.hid hM7
              have HR7 := Lib.hid hR7
              have Hb7 := Lib.hid hb7
              have HA7 : Hid (∀ g, g < k → ∀ i', i' < n → updM Wi Si T (v i k) (rotN n BY i') (rotN m GO g) = v i' g) := Lib.hid (fun g hg i' hi' => by
                rw [updM_ne _ _ (fun e => by
                  have e2 := e.2
                  rw [HT.out] at e2
                  have := rotN_inj hGOm (by omega) hlt e2
                  omega)]
                exact HWk2.out g hg i' hi')
              have HB7 : Hid (∀ i', i' < i + 1 → updM Wi Si T (v i k) (rotN n BY i') T = v i' k) := Lib.hid (fun i' hi' => by
                rcases Nat.lt_or_ge i' i with h | h
                · rw [updM_ne _ _ (fun e => by
                    have e1 := e.1
                    rw [HSi.out] at e1
                    have := rotN_inj hBYn (by omega) hlt2 e1
                    omega)]
                  exact HWi2.out i' h
                · obtain rfl : i' = i := by omega
                  rw [← HSi.out, updM_at])
              clear hM7 hR7 hb7 wc rc rf vc vrc t3 u3
              go_wp2
              go_roundw
              case rel => exact ⟨i + 1, by omega, by go_num, _, HM7.out, HR7.out, HA7.out, HB7.out, Hb7.out⟩
              case measure => simp [intOf]; omega
            · obtain rfl : n = i := by omega
              have HI' : Hid (NmI w4 n m BY GO XB v d (k + 1) wr) := Lib.hid ⟨Wi, _, hWi, hRi, HX6.out, fun g hg i' hi' => by
                rcases Nat.lt_or_ge g k with h | h
                · exact hWk2 g h i' hi'
                · obtain rfl : g = k := by omega
                  rw [← HT.out]
                  exact hWi2 i' hi', hbi⟩
              clear hWi hRi hWk2 hWi2 hbi
              go_wp2
              go_roundw
              case rel => exact ⟨k + 1, by omega, by go_num, HI'.out⟩
              case measure => simp [intOf]; omega
        · obtain rfl : m = k := by omega
          obtain ⟨Wm, X, hWm, hX, hXk, hWk, hbel⟩ := hI
          have HRn : Hid (Renamed n m BY GO v Wm d X) := Lib.hid ⟨hBYn, hGOm, HOwn.out, fun i g hi hg => hWk g hg i hi, hXk⟩
          have HWm := Lib.hid hWm
          have HX := Lib.hid hX
          have Hb8 := Lib.hid hbel
          clear hWm hX hXk hWk hbel
          have HOkW : Hid (okDiv n (fun _ => m) Wm m X = true) := Lib.hid (okDiv_mk h1 h2 h3 h4 (HRn.out.bd H6.out) HRn.out.own')
          go_wp2_with fail
          refine (Envy_few (c := n) (c' := m) HWm.out.rows HX.out.ints rfl rfl (by omega) (fun _ _ => by omega) (by omega) HOkW.out).mono ?_
          rintro e w9 ⟨Bx, cb, rfl, hPB, hb9⟩
          rw [HRn.out.len]
          have hlen := envAll_len n m v d n
          have hnn : n * n ≤ 4 * 4 := Nat.mul_le_mul h2 h2
          have HPA := Lib.hid ((HP4.out.keep Hb8.out).keep hb9)
          have HPB := Lib.hid hPB
          have HWm9 := Lib.hid (HWm.out.keep hb9)
          have HX9 := Lib.hid (HX.out.keep hb9)
          have Hb9 := Lib.hid (Hb4.out.trans ((Hb8.out.trans (hb9.mono Hb8.out.size)).mono Hb4.out.size))
          have HMem : Hid (∀ k, k < (envAll n m v d n).length → ∃ i j : Nat, i < n ∧ j < n ∧ (envAll n m v d n).getD k (0, 0) = ((i : Int), (j : Int)) ∧ ((((rotN n BY i : Nat) : Int), ((rotN n BY j : Nat) : Int)) : Int × Int) ∈ envAll n m Wm X n) := Lib.hid (fun k hk => HRn.out.mem (by
            rw [List.getD_eq_getElem?_getD, List.getElem?_eq_getElem hk, Option.getD_some]
            exact List.getElem_mem hk))
          have HLB : Hid ((envAll n m Wm X n).length = (envAll n m v d n).length) := Lib.hid HRn.out.len
          have HFa : Hid (∀ kind, allB (fairToB n m Wm X kind) n = allB (fairToB n m v d kind) n) := Lib.hid (fun kind => HRn.out.fair kind)
          generalize envAll n m v d n = la at *
          generalize envAll n m Wm X n = lb at *
          obtain ⟨N, hN⟩ : ∃ N, N = la.length := ⟨_, rfl⟩
          rw [← hN] at hlen ⊢
          have HN := Lib.hid hN
          have hq := bne_f (a := (N : Int)) rfl
          clear hPB hb9 hN
          go_wp2_with fail
          go_loopw [145] (fun x wr => ∃ k : Nat, k ≤ N ∧ x = .int .i64 k ∧ Below w9.heap.size w9 wr) (fun x _ => N - (intOf x).toNat)
          case atStart => exact ⟨0, Nat.zero_le _, rfl, Below.refl _ _⟩
          case round =>
            obtain ⟨k, hk, rfl, hbel⟩ := hrel
            by_cases hlt : k < N
            · obtain ⟨i, j, hi, hj, hij, hmem⟩ := HMem.out k (by have := HN.out; omega)
              obtain ⟨ba, rfl, hca⟩ := (HPA.out.keep hbel) (by have := HN.out; omega)
              obtain ⟨x1, x2⟩ := hca k (by have := HN.out; omega)
              rw [hij] at x1 x2
              have t1 : ((i : Int) + (BY : Int)).tmod (n : Int) = ((rotN n BY i : Nat) : Int) := tmod_rot hBYn hi
              have t2 : ((j : Int) + (BY : Int)).tmod (n : Int) = ((rotN n BY j : Nat) : Int) := tmod_rot hBYn hj
              have hSi := rotN_lt hBYn hi
              have hSj := rotN_lt hBYn hj
              generalize rotN n BY i = Si at *
              generalize rotN n BY j = Sj at *
              have u3 : IntKind.i64.wrap (Si : Int) = (Si : Int) := IntWalk.i64_in _ ⟨by omega, by omega⟩
              have u4 : IntKind.i64.wrap (Sj : Int) = (Sj : Int) := IntWalk.i64_in _ ⟨by omega, by omega⟩
              have hnz : ¬ (n : Int) = 0 := by omega
              have hnz2 : ((n : Int) == 0) = false := by simpa using hnz
              have u1 : IntKind.i64.wrap ((i : Int) + (BY : Int)) = (i : Int) + (BY : Int) := IntWalk.i64_in _ ⟨by omega, by omega⟩
              have u2 : IntKind.i64.wrap ((j : Int) + (BY : Int)) = (j : Int) + (BY : Int) := IntWalk.i64_in _ ⟨by omega, by omega⟩
              have HMm := Lib.hid hmem
              have Hbel := Lib.hid hbel
              clear hca hij hmem hbel
              go_wp2_with fail
              obtain ⟨wA, hwA⟩ : ∃ wA : World, wA = wr.alloc (.cells #[.int .i64 i, .int .i64 j] 45) := ⟨_, rfl⟩
              obtain ⟨P, hP⟩ : ∃ P, P = wr.heap.size := ⟨_, rfl⟩
              have p0 : wA.cell? ⟨P, 0, none⟩ = some (.int .i64 i) := by rw [hwA, hP]; simp [World.cell?_alloc_at]
              have p1 : wA.cell? ⟨P, 1, none⟩ = some (.int .i64 j) := by rw [hwA, hP]; simp [World.cell?_alloc_at]
              have hbA : Below wr.heap.size wr wA := by rw [hwA]; exact (Below.refl _ _).alloc (Nat.le_refl _) _
              rw [← hwA, ← hP]
              have HbA := Lib.hid (Hbel.out.trans (hbA.mono Hbel.out.size))
              have HCon : Hid (Calls Try.prog 35 #[.slice Bx N cb, .agg #[.int .i64 Si, .int .i64 Sj]] wA.drew fun e w' => e = .returned (.bool true) ∧ Below wA.heap.size wA w') := Lib.hid (by
                have h := pcontains_any Bx cb lb Si Sj wA.drew ((HPB.out.keep HbA.out).keep ((Below.refl _ _).drew)) (by have := HLB.out; have := HN.out; omega) HMm.out
                rw [HLB.out, ← HN.out] at h
                exact h.mono (fun e w' h2 => ⟨h2.1, ((Below.refl wA.heap.size wA).drew).trans h2.2⟩))
              clear hwA hP hbA x1 x2
              go_region_with (first
                | (go_at_call 35; refine HCon.out.mono ?_; rintro e w10 ⟨rfl, hb10⟩))
              all_goals
                have Hb10 := Lib.hid (HbA.out.trans (hb10.mono HbA.out.size))
                clear hb10 p0 p1 t1 t2 u1 u2 u3 u4 hnz hnz2
                go_wp2
                go_roundw
                case rel => exact ⟨k + 1, by omega, by go_num, Hb10.out⟩
                case measure => simp [intOf]; omega
            · obtain rfl : N = k := by omega
              have Hbel := Lib.hid hbel
              clear hbel
              go_wp2_with fail
              obtain ⟨wB, hwB⟩ : ∃ wB : World, wB = wr := ⟨_, rfl⟩
              rw [← hwB]
              rw [← hwB] at Hbel
              have HWmB := Lib.hid (HWm9.out.keep Hbel.out)
              have HXB2 := Lib.hid (HX9.out.keep Hbel.out)
              have HbB := Lib.hid (Hb9.out.trans (Hbel.out.mono Hb9.out.size))
              clear hwB
              go_loopw [166] (fun x wr => ∃ k : Nat, k ≤ 5 ∧ x = .int .i64 k ∧ Below wB.heap.size wB wr) (fun x _ => 5 - (intOf x).toNat)
              case atStart => exact ⟨0, Nat.zero_le _, rfl, Below.refl _ _⟩
              case round =>
                obtain ⟨k, hk, rfl, hbel⟩ := hrel
                by_cases hlt : k < 5
                · have Hb11 := Lib.hid (HbB.out.trans (hbel.mono HbB.out.size))
                  have HWmC := Lib.hid (HWmB.out.keep hbel)
                  have HXC := Lib.hid (HXB2.out.keep hbel)
                  have HbC := Lib.hid hbel
                  clear hbel
                  go_wp2_with fail
                  refine (few_any _ n c L v _ (HV.out.below Hb11.out)).mono ?_
                  rintro e w12 ⟨x, rfl, hx, hb12⟩
                  obtain ⟨A12, c12, rfl, hR12, -⟩ := hx.rows
                  have HbD := Lib.hid (HbC.out.trans (hb12.mono HbC.out.size))
                  have HR12 := Lib.hid hR12
                  have HWmD := Lib.hid (HWmC.out.keep hb12)
                  have HXD := Lib.hid (HXC.out.keep hb12)
                  clear hb12 hx hR12
                  go_wp2_with fail
                  refine (list_any D m cd d _ (HD.out.below (HbB.out.trans (HbD.out.mono HbB.out.size)))).mono ?_
                  rintro e w13 ⟨y, rfl, hy, hb13⟩
                  obtain ⟨D13, c13, rfl, hI13⟩ := hy.sl0
                  have HbE := Lib.hid (HbD.out.trans (hb13.mono HbD.out.size))
                  have HR13 := Lib.hid (HR12.out.keep hb13)
                  have HI13 := Lib.hid hI13
                  have HWmE := Lib.hid (HWmD.out.keep hb13)
                  have HXE := Lib.hid (HXD.out.keep hb13)
                  clear hb13 hy hI13
                  go_wp2_with fail
                  refine Ro.use (Fair_few HR13.out HI13.out (show min n 6 = n by omega) (show min m 9 = m by omega) (by omega) (short9n _ _) (by omega) HO2.out (by omega) (by omega)) ?_
                  intro w14 hd14
                  have HbF := Lib.hid (HbE.out.trans ((hd14.below _).mono HbE.out.size))
                  have HWmF := Lib.hid (HWmE.out.keep (hd14.below _))
                  have HXF := Lib.hid (HXE.out.keep (hd14.below _))
                  clear hd14
                  go_wp2_with fail
                  refine Ro.use (Fair_few (c := n) (c' := m) HWmF.out.rows HXF.out.ints rfl rfl (by omega) (fun _ _ => by omega) (by omega) HOkW.out (by omega) (by omega)) ?_
                  intro w15 hd15
                  have HbG := Lib.hid (HbF.out.trans ((hd15.below _).mono HbF.out.size))
                  rw [HFa.out]
                  clear hd15
                  generalize allB (fairToB n m v d (k : Int)) n = fb at *
                  have hfb : (fb != fb) = false := by simp
                  go_wp2
                  go_roundw
                  case rel => exact ⟨k + 1, by omega, by go_num, HbG.out⟩
                  case measure => simp [intOf]; omega
                · obtain rfl : k = 5 := by omega
                  have Hb11 := Lib.hid (HbB.out.trans (hbel.mono HbB.out.size))
                  clear hbel
                  go_wp2_with fail
                  refine (awake_any _).mono ?_
                  rintro e w16 ⟨rfl, hb16⟩
                  have Hb16 := Lib.hid (Hb11.out.trans (hb16.mono Hb11.out.size))
                  clear hb16
                  go_wp2
                  go_ret
                  exact ⟨rfl, Hb16.out⟩

theorem splitNames_walk (A : Option Addr) (n c : Nat) (L : Nat → Nat) (v : Nat → Nat → Int) (D : Option Addr) (nd cd : Nat) (d : Nat → Int) (a b : Int) (W : World) (hv : ArgR W A n c L v) (hd : ArgI W D nd cd d) (_ha : (Lit.int .i64 a).wf = true) (_hb : (Lit.int .i64 b).wf = true) :
    Calls Try.prog 10 #[.slice A n c, .slice D nd cd, .int .i64 a, .int .i64 b] W fun e W' => e = .returned (.bool true) ∧ Below W.heap.size W W' := by
  cases hok : okDiv n L v nd d with
  | false => exact splitNames_bad A n c L v D nd cd d a b W hv hd hok
  | true => exact splitNames_good A n c L v D nd cd d a b W hv hd hok
end Go.Proofs.Ytkgikehagkpmoaa
