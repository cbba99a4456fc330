import Derived.Test.YtkgikehagkpmoaaSs1
namespace Go.Proofs.Ytkgikehagkpmoaa
open Go.RowKit

theorem OwnS.lens {w : World} {base n : Nat} {x : Value} {L L' : Nat → Nat} {v : Nat → Nat → Int} (h : OwnS w base x n L v) (e : ∀ i, i < n → L i = L' i) : OwnS w base x n L' v := by
  obtain ⟨vals, h1, h2, h3, h4⟩ := h
  refine ⟨vals, h1, h2, fun i y hy => ?_, h4⟩
  have hi : i < vals.length := (List.getElem?_eq_some_iff.1 hy).1
  rw [← e i (by omega)]
  exact h3 i y hy
theorem OwnS.rowsAt {w : World} {base n c : Nat} {A : Option Addr} {L : Nat → Nat} {v : Nat → Nat → Int} (h : OwnS w base (.slice A n c) n L v) : Rows2 w A n L v := by
  obtain ⟨A', c', e, h1, -⟩ := h.own.rows
  injection e with e
  rw [e]
  exact h1
/-- The first k goods of person p are multiplied. -/
def scK (p : Nat) (B : Int) (v : Nat → Nat → Int) (k : Nat) : Nat → Nat → Int := fun i g => if i = p ∧ g < k then v i g * B else v i g
theorem scK_next {p k : Nat} {B : Int} {v : Nat → Nat → Int} (i g : Nat) : updM (scK p B v k) p k (v p k * B) i g = scK p B v (k + 1) i g := by
  unfold updM scK upd
  by_cases e1 : i = p
  · subst e1
    simp only [if_true, true_and]
    by_cases e2 : g = k
    · subst e2
      rw [if_pos rfl, if_pos (by omega)]
    · rw [if_neg e2]
      by_cases e3 : g < k
      · rw [if_pos e3, if_pos (by omega)]
      · rw [if_neg e3, if_neg (by omega)]
  · simp [e1]
theorem scK_done {p k : Nat} {B : Int} {v : Nat → Nat → Int} (i g : Nat) (hg : g < k) : scK p B v k i g = scV p B v i g := by
  unfold scK scV kap
  by_cases e1 : i = p
  · rw [if_pos ⟨e1, hg⟩, if_pos e1, Int.mul_comm]
  · rw [if_neg (fun h => e1 h.1), if_neg e1, Int.one_mul]

set_option maxHeartbeats 1000000 in
set_option maxRecDepth 1000000 in
theorem splitScaled_bad (A : Option Addr) (n c : Nat) (L : Nat → Nat) (v : Nat → Nat → Int) (D : Option Addr) (nd cd : Nat) (d : Nat → Int) (a b : Int) (W : World) (hv : ArgR W A n c L v) (hd : ArgI W D nd cd d) (hok : okDiv n L v nd d = false) :
    Calls Try.prog 11 #[.slice A n c, .slice D nd cd, .int .i64 a, .int .i64 b] W fun e W' => e = .returned (.bool true) ∧ Below W.heap.size W W' := by
  have HO2 : Hid (okDiv (min n 6) (fun i => min (L i) 9) v (min nd 9) d = false) := Lib.hid (okDiv_few.trans hok)
  clear hok
  go_enter Try.func11, Try.ntmps11
  go_wp2_with fail
  refine (few_any A n c L v _ hv).mono ?_
  rintro e w1 ⟨x, rfl, hx, hb1⟩
  obtain ⟨A1, c1, rfl, hR1, -⟩ := hx.rows
  have Hb1 := Lib.hid hb1
  have HR1 := Lib.hid hR1
  clear hb1 hx hR1
  go_wp2_with fail
  refine (list_any D nd cd d _ (hd.below Hb1.out)).mono ?_
  rintro e w2 ⟨y, rfl, hy, hb2⟩
  obtain ⟨D2, c2, rfl, hI2⟩ := hy.sl0
  have Hb2 := Lib.hid (Hb1.out.trans (hb2.mono Hb1.out.size))
  have HR2 := Lib.hid (HR1.out.keep hb2)
  clear hb2 hy
  go_wp2_with fail
  refine Ro.use (Envy_bad _ _ _ _ _ _ _ v d _ HR2.out hI2 (by omega) (short9s _ _) (by omega) HO2.out) ?_
  intro w3 hd3
  have Hb3 := Lib.hid (Hb2.out.trans ((hd3.below _).mono Hb2.out.size))
  clear hI2 HR2 hd3
  go_wp2_with fail
  refine (awake_any _).mono ?_
  rintro e w7 ⟨rfl, hb7⟩
  have Hb7 := Lib.hid (Hb3.out.trans (hb7.mono Hb3.out.size))
  clear hb7
  go_wp2
  go_ret
  exact ⟨rfl, Hb7.out⟩

set_option maxHeartbeats 1000000 in
set_option maxRecDepth 1000000 in
theorem splitScaled_good (A : Option Addr) (n c : Nat) (L : Nat → Nat) (v : Nat → Nat → Int) (D : Option Addr) (nd cd : Nat) (d : Nat → Int) (a b : Int) (W : World) (hv : ArgR W A n c L v) (hd : ArgI W D nd cd d) (hok : okDiv n L v nd d = true) :
    Calls Try.prog 11 #[.slice A n c, .slice D nd cd, .int .i64 a, .int .i64 b] W fun e W' => e = .returned (.bool true) ∧ Below W.heap.size W W' := by
  have hO := okDiv_of hok
  obtain ⟨h1, h2, h3, h4, h5, h6⟩ := okVals_of hO.1
  obtain ⟨m, hm⟩ : ∃ m, m = L 0 := ⟨_, rfl⟩
  have hnd := hO.2.1
  rw [← hm] at h3 h4 h6 hnd
  have HO2 : Hid (okDiv n (fun i => min (L i) 9) v nd d = true) := Lib.hid (by
    have h := okDiv_few.trans hok
    rw [show min n 6 = n by omega, show min nd 9 = nd by omega] at h
    exact h)
  have HM := Lib.hid (okVals_mat hv.rows hO.1)
  rw [← hm] at HM
  have HOwn := Lib.hid hO.2.2
  have HOk := Lib.hid hok
  have H6 := Lib.hid h6
  have HV := Lib.hid hv
  have HD := Lib.hid hd
  obtain ⟨bv, ov, Rv0, cv0, rfl, -, -⟩ := hv.rows.at h1
  have hmn : (n : Int) ≤ 4 := by omega
  have hnd2 := hnd.symm
  subst hnd2
  have HML := Lib.hid hm
  have HLm : Hid (∀ i, i < n → L i = m) := Lib.hid (fun i hi => (h5 i hi).trans hm.symm)
  clear hO h5 h6 hok hv hd hm
  go_enter Try.func11, Try.ntmps11
  go_wp2_with fail
  refine (few_any _ n c L v _ HV.out).mono ?_
  rintro e w1 ⟨x, rfl, hx, hb1⟩
  obtain ⟨A1, c1, rfl, hR1, -⟩ := hx.rows
  have Hb1 := Lib.hid hb1
  have HR1 := Lib.hid hR1
  clear hb1 hx hR1
  go_wp2_with fail
  refine (list_any D m cd d _ (HD.out.below Hb1.out)).mono ?_
  rintro e w2 ⟨y, rfl, hy, hb2⟩
  obtain ⟨D2, c2, rfl, hI2⟩ := hy.sl0
  have Hb2 := Lib.hid (Hb1.out.trans (hb2.mono Hb1.out.size))
  have HR2 := Lib.hid (HR1.out.keep hb2)
  have HI2 := Lib.hid hI2
  clear hb2 hy hI2
  go_wp2_with fail
  refine (EnvyS_few HR2.out HI2.out (show min n 6 = n by omega) (show min m 9 = m by omega) (by omega) (short9s _ _) (by omega) HO2.out).mono ?_
  rintro e w3 ⟨Ax, cx, rfl, hP, hb3⟩
  have Hb3 := Lib.hid (Hb2.out.trans (hb3.mono Hb2.out.size))
  have HP3 := Lib.hid hP
  clear hb3 hP
  go_wp2_with fail
  refine (divided_any _ _ _ _ _ _ L v d _ (HV.out.below Hb3.out) (HD.out.below Hb3.out)).mono ?_
  rintro e w' ⟨rfl, rfl⟩
  rw [HOk.out]
  have hn0 : (0 : Int) < n := by omega
  have hnz : ¬ (n : Int) = 0 := by omega
  obtain ⟨U, hU⟩ := u64_wrapS a
  obtain ⟨V, hV⟩ := u64_wrapS b
  obtain ⟨p, hp⟩ : ∃ p, p = U % n := ⟨_, rfl⟩
  obtain ⟨R, hR⟩ : ∃ R, R = V % 5 := ⟨_, rfl⟩
  have hpn : p < n := by rw [hp]; exact Nat.mod_lt _ h1
  have hR5 : R < 5 := by omega
  have hTa : (U : Int).tmod (n : Int) = (p : Int) := by rw [hp]; exact tmod_natS U n
  have hTb : (V : Int).tmod 5 = (R : Int) := by rw [hR]; exact tmod_natS V 5
  clear hp hR
  go_wp2_with fail
  refine (fewS_any _ n c L v _ (HV.out.below Hb3.out)).mono ?_
  rintro e w4 ⟨X, rfl, hX, hb4⟩
  have Hb4 := Lib.hid (Hb3.out.trans (hb4.mono Hb3.out.size))
  have hb43 := hb4
  have hX' : OwnS w4 w3.heap.size X (min n 6) (fun _ => m) v := hX.lens (fun i hi => by
    have := HLm.out i (by omega)
    show min (L i) 9 = m
    omega)
  have HX4 := Lib.hid hX'
  obtain ⟨G, cG, blk, cap, rfl, hrow, -, -, -, -⟩ := hX'.row (p := p) (by omega) h3
  clear hb4 hX hX' hU hV hTa hTb
  obtain ⟨B, hB⟩ : ∃ B : Int, B = 1 + (R : Int) := ⟨_, rfl⟩
  have HBv := Lib.hid hB
  clear hB
  go_wp2_with fail
  rw [← HBv.out]
  have hB1 : 1 ≤ B := by have := HBv.out; omega
  have hB5 : B ≤ 5 := by have := HBv.out; omega
  clear hrow
  have HX5 : Hid (OwnS w4 w3.heap.size (.slice (some ⟨G, 0, none⟩) (min n 6) cG) (min n 6) (fun _ => m) (scK p B v 0)) := Lib.hid (HX4.out.congr fun i g hi hg => by unfold scK; rw [if_neg (by omega)])
  have Hb43 : Hid (Below w3.heap.size w3 w4) := Lib.hid hb43
  go_loopw [71] (fun x wr => ∃ k : Nat, k ≤ m ∧ x = .int .i64 k ∧ OwnS wr w3.heap.size (.slice (some ⟨G, 0, none⟩) (min n 6) cG) (min n 6) (fun _ => m) (scK p B v k) ∧ Below w3.heap.size w3 wr) (fun x _ => m - (intOf x).toNat)
  case atStart => exact ⟨0, Nat.zero_le _, rfl, HX5.out, Hb43.out⟩
  case round =>
    obtain ⟨k, hk, rfl, hO, hbel⟩ := hrel
    by_cases hlt : k < m
    · obtain ⟨G', cG', bk, cp, eG, hrow, hbb, hfz, hcl, hset⟩ := hO.row (p := p) (by omega) h3
      injection eG with eG
      injection eG with eG
      injection eG with eG1
      subst eG1
      have hck := hcl k hlt
      have hfk := hfz k
      have hv0 : scK p B v k p k = v p k := by unfold scK; rw [if_neg (by omega)]
      rw [hv0] at hck
      obtain ⟨q1, q2⟩ := H6.out p hpn k hlt
      have m0 : 0 ≤ v p k * B := Int.mul_nonneg q1 (by omega)
      have m1 : v p k * B ≤ 100 * 5 := Int.mul_le_mul q2 hB5 (by omega) (by omega)
      have HO2 : Hid (OwnS (wr.setCell ⟨bk, k, none⟩ (.int .i64 (v p k * B))) w3.heap.size (.slice (some ⟨G, 0, none⟩) (min n 6) cG) (min n 6) (fun _ => m) (scK p B v (k + 1))) := Lib.hid ((hset k (v p k * B)).congr fun i g hi hg => scK_next i g)
      have Hb2 := Lib.hid (hbel.setCell (p := ⟨bk, k, none⟩) hbb (.int .i64 (v p k * B)))
      clear hO hbel hset hcl hfz hbb hv0
      go_wp2
      go_roundw
      case rel => exact ⟨k + 1, by omega, by go_num, HO2.out, Hb2.out⟩
      case measure => simp [intOf]; omega
    · obtain rfl : m = k := by omega
      have HO := Lib.hid (hO.congr (v' := scV p B v) fun i g hi hg => scK_done i g hg)
      have Hb5 := Lib.hid (Hb3.out.trans (hbel.mono Hb3.out.size))
      have HP5 := Lib.hid (HP3.out.keep hbel)
      clear hO hbel
      go_wp2_with fail
      refine (list_any D m cd d _ (HD.out.below Hb5.out)).mono ?_
      rintro e w6 ⟨x, rfl, hx, hb⟩
      obtain ⟨Aw6, cw6, rfl, hIw6⟩ := hx.sl0
      have HBs21 := Lib.hid (Hb5.out.trans (hb.mono Hb5.out.size))
      have HOs21 := Lib.hid (HO.out.below hb)
      have HPs21 := Lib.hid (HP5.out.keep hb)
      have HIdw6 := Lib.hid hIw6
      clear hb hx hIw6
      have HZd : Hid (∀ i g, scV p B v i g = scV p B v i g) := Lib.hid (fun _ _ => rfl)
      cases hokw : okDiv n (fun _ => m) (scV p B v) m d with
      | false =>
        have HOkw := Lib.hid hokw
        clear hokw
        go_wp2_with fail
        refine Ro.use (EnvyS_bad (HOs21.out.rowsAt) HIdw6.out (show min n 6 = n by omega) (show min m 9 = m by omega) (by omega) (fun _ _ => by omega) (by omega) HOkw.out) ?_
        intro w7 hd7
        have Hb7 := Lib.hid (HBs21.out.trans ((hd7.below _).mono HBs21.out.size))
        clear hd7
        go_wp2_with fail
        refine (awake_any _).mono ?_
        rintro e w8 ⟨rfl, hb8⟩
        have Hb8 := Lib.hid (Hb7.out.trans (hb8.mono Hb7.out.size))
        clear hb8
        go_wp2
        go_ret
        exact ⟨rfl, Hb8.out⟩
      | true =>
        have HOkw := Lib.hid hokw
        have HVw : Hid (okVals n (fun _ => m) (scV p B v) = true) := Lib.hid (okDiv_of hokw).1
        have hshw : okParts m (scV p B v p) (n : Int) = true := by
          have hbw := (okVals_of (okDiv_of hokw).1).2.2.2.2.2 p hpn
          simp only [okParts, okRow, Bool.and_eq_true, decide_eq_true_eq]
          exact ⟨⟨h3, h4, hbw⟩, by omega, by omega⟩
        have HShw := Lib.hid hshw
        have hshv : okParts m (v p) (n : Int) = true := by
          have hbv := H6.out p hpn
          simp only [okParts, okRow, Bool.and_eq_true, decide_eq_true_eq]
          exact ⟨⟨h3, h4, hbv⟩, by omega, by omega⟩
        have HShv := Lib.hid hshv
        have HNk : Hid ((n : Int) = ((n - 1 + 1 : Nat) : Int)) := Lib.hid (by omega)
        have hB0 : 0 < B := by omega
        have HSc : Hid (shareN m (scV p B v p) (n - 1) = B * shareN m (v p) (n - 1)) := Lib.hid (by
          have h := shareN_sc hB0 m (n - 1) (v p)
          have e : scV p B v p = fun j => B * v p j := by funext j; simp [scV, kap]
          rw [e]; exact h)
        have HFv : Hid (okVals n (fun i => min (L i) 9) v = true) := Lib.hid (okVals_copy (okDiv_of HOk.out).1)
        have HL0 : Hid ((fun i => min (L i) 9) 0 = m) := Lib.hid (by have := HLm.out 0 (by omega); show min (L 0) 9 = m; omega)
        clear hokw hshw hshv
        go_wp2_with fail
        refine (EnvyS_few (HOs21.out.rowsAt) HIdw6.out (show min n 6 = n by omega) (show min m 9 = m by omega) (by omega) (fun _ _ => by omega) (by omega) HOkw.out).mono ?_
        rintro e w7 ⟨Bx, cb, rfl, hPB, hb⟩
        have HBs22 := Lib.hid (HBs21.out.trans (hb.mono HBs21.out.size))
        have HOs22 := Lib.hid (HOs21.out.below hb)
        have HPs22 := Lib.hid (HPs21.out.keep hb)
        rw [envAll_sc hB0] at hPB
        rw [envAll_sc hB0]
        have HQ := Lib.hid hPB
        clear hb hPB
        go_wp2_with fail
        refine (few_any _ n c L v _ (HV.out.below HBs22.out)).mono ?_
        rintro e w8 ⟨x, rfl, hx, hb⟩
        obtain ⟨Aw8, cw8, rfl, hRowsw8, -⟩ := hx.rows
        have HBs23 := Lib.hid (HBs22.out.trans (hb.mono HBs22.out.size))
        have HOs23 := Lib.hid (HOs22.out.below hb)
        have HPs23 := Lib.hid (HPs22.out.keep hb)
        have HQs23 := Lib.hid (HQ.out.keep hb)
        have HRww8 := Lib.hid hRowsw8
        clear hb hx hRowsw8
        go_wp2_with fail
        refine (RoundsS HRww8.out (show min n 6 = n by omega) (by omega) (short9s _ _) HFv.out HL0.out).mono ?_
        rintro e w9 ⟨Arw9, crw9, rfl, hI, hb⟩
        have HBs24 := Lib.hid (HBs23.out.trans (hb.mono HBs23.out.size))
        have HOs24 := Lib.hid (HOs23.out.below hb)
        have HPs24 := Lib.hid (HPs23.out.keep hb)
        have HQs24 := Lib.hid (HQs23.out.keep hb)
        have HRww8s24 := Lib.hid (HRww8.out.keep hb)
        have HRa := Lib.hid hI
        clear hb hI
        go_wp2_with fail
        refine (RoundsS (HOs24.out.rowsAt) (show min n 6 = n by omega) (by omega) (fun _ _ => by omega) HVw.out rfl).mono ?_
        rintro e w10 ⟨Arw10, crw10, rfl, hI, hb⟩
        have HBs25 := Lib.hid (HBs24.out.trans (hb.mono HBs24.out.size))
        have HOs25 := Lib.hid (HOs24.out.below hb)
        have HPs25 := Lib.hid (HPs24.out.keep hb)
        have HQs25 := Lib.hid (HQs24.out.keep hb)
        have HRas25 := Lib.hid (HRa.out.keep hb)
        rw [rdD_sc hB0] at hI
        have HRb := Lib.hid hI
        clear hb hI
        go_wp2_with fail
        refine (few_any _ n c L v _ (HV.out.below HBs25.out)).mono ?_
        rintro e w11 ⟨x, rfl, hx, hb⟩
        obtain ⟨Aw11, cw11, rfl, hRowsw11, -⟩ := hx.rows
        have HBs26 := Lib.hid (HBs25.out.trans (hb.mono HBs25.out.size))
        have HOs26 := Lib.hid (HOs25.out.below hb)
        have HPs26 := Lib.hid (HPs25.out.keep hb)
        have HQs26 := Lib.hid (HQs25.out.keep hb)
        have HRas26 := Lib.hid (HRas25.out.keep hb)
        have HRbs26 := Lib.hid (HRb.out.keep hb)
        have HRww11 := Lib.hid hRowsw11
        clear hb hx hRowsw11
        go_wp2_with fail
        refine (CyclesS HRww11.out (show min n 6 = n by omega) (by omega) (short9s _ _) HFv.out HL0.out).mono ?_
        rintro e w12 ⟨Arw12, crw12, Dw12, rfl, hI, hcs, hb⟩
        have HBs27 := Lib.hid (HBs26.out.trans (hb.mono HBs26.out.size))
        have HOs27 := Lib.hid (HOs26.out.below hb)
        have HPs27 := Lib.hid (HPs26.out.keep hb)
        have HQs27 := Lib.hid (HQs26.out.keep hb)
        have HRas27 := Lib.hid (HRas26.out.keep hb)
        have HRbs27 := Lib.hid (HRbs26.out.keep hb)
        have HRww11s27 := Lib.hid (HRww11.out.keep hb)
        have HCa := Lib.hid hI
        have HCsw12 := Lib.hid hcs
        clear hb hI hcs
        go_wp2_with fail
        refine (CyclesS (HOs27.out.rowsAt) (show min n 6 = n by omega) (by omega) (fun _ _ => by omega) HVw.out rfl).mono ?_
        rintro e w13 ⟨Arw13, crw13, Dw13, rfl, hI, hcs, hb⟩
        have HBs28 := Lib.hid (HBs27.out.trans (hb.mono HBs27.out.size))
        have HOs28 := Lib.hid (HOs27.out.below hb)
        have HPs28 := Lib.hid (HPs27.out.keep hb)
        have HQs28 := Lib.hid (HQs27.out.keep hb)
        have HRas28 := Lib.hid (HRas27.out.keep hb)
        have HRbs28 := Lib.hid (HRbs27.out.keep hb)
        have HCas28 := Lib.hid (HCa.out.keep hb)
        have HCb := Lib.hid hI
        have HCsw13 := Lib.hid hcs
        clear hb hI hcs
        have hDD : Dw13 = Dw12 := (HCsw13.out.sc hB0).only HCsw12.out
        subst hDD
        obtain ⟨bk2, ok2, Ak2, ck2, hAe, hck2, hRk2⟩ := (HV.out.below HBs28.out).at hpn
        injection hAe with hAe
        injection hAe with ha1 ha2
        subst ha1 ha2
        have HRk2 := Lib.hid hRk2
        have HLp : Hid (min (L p) 9 = m) := Lib.hid (by have := HLm.out p hpn; omega)
        clear hRk2
        go_wp2_with fail
        refine (list_any Ak2 (L p) ck2 (v p) _ HRk2.out).mono ?_
        rintro e w14 ⟨x, rfl, hx, hb⟩
        obtain ⟨A14, c14, rfl, hI14⟩ := hx.sl0
        have HBs29 := Lib.hid (HBs28.out.trans (hb.mono HBs28.out.size))
        have HOs29 := Lib.hid (HOs28.out.below hb)
        have HPs29 := Lib.hid (HPs28.out.keep hb)
        have HQs29 := Lib.hid (HQs28.out.keep hb)
        have HRas29 := Lib.hid (HRas28.out.keep hb)
        have HRbs29 := Lib.hid (HRbs28.out.keep hb)
        have HCas29 := Lib.hid (HCas28.out.keep hb)
        have HCbs29 := Lib.hid (HCb.out.keep hb)
        have HI14 := Lib.hid hI14
        clear hb hx hI14 hck2
        go_wp2_with fail
        refine (ShareS HI14.out HLp.out HShv.out HNk.out).mono ?_
        rintro e w15 ⟨rfl, hb⟩
        have HBs30 := Lib.hid (HBs29.out.trans (hb.mono HBs29.out.size))
        have HOs30 := Lib.hid (HOs29.out.below hb)
        have HPs30 := Lib.hid (HPs29.out.keep hb)
        have HQs30 := Lib.hid (HQs29.out.keep hb)
        have HRas30 := Lib.hid (HRas29.out.keep hb)
        have HRbs30 := Lib.hid (HRbs29.out.keep hb)
        have HCas30 := Lib.hid (HCas29.out.keep hb)
        have HCbs30 := Lib.hid (HCbs29.out.keep hb)
        clear hb
        obtain ⟨G2, cG2, cp2, Ap2, eG2, hck3, hArg⟩ := HOs30.out.arg (p := p) (by omega)
        injection eG2 with eG2
        injection eG2 with eG2
        injection eG2 with eG3
        subst eG3
        have HArg := Lib.hid hArg
        clear hArg
        go_wp2_with fail
        refine (list_any Ap2 m cp2 (scV p B v p) _ HArg.out).mono ?_
        rintro e w16 ⟨x, rfl, hx, hb⟩
        obtain ⟨A16, c16, rfl, hI16⟩ := hx.sl0
        have HBs31 := Lib.hid (HBs30.out.trans (hb.mono HBs30.out.size))
        have HOs31 := Lib.hid (HOs30.out.below hb)
        have HPs31 := Lib.hid (HPs30.out.keep hb)
        have HQs31 := Lib.hid (HQs30.out.keep hb)
        have HRas31 := Lib.hid (HRas30.out.keep hb)
        have HRbs31 := Lib.hid (HRbs30.out.keep hb)
        have HCas31 := Lib.hid (HCas30.out.keep hb)
        have HCbs31 := Lib.hid (HCbs30.out.keep hb)
        have HI16 := Lib.hid hI16
        clear hb hx hI16 hck3
        go_wp2_with fail
        refine (ShareS HI16.out (show min m 9 = m by omega) HShw.out HNk.out).mono ?_
        rintro e w17 ⟨rfl, hb⟩
        have HBs32 := Lib.hid (HBs31.out.trans (hb.mono HBs31.out.size))
        have HOs32 := Lib.hid (HOs31.out.below hb)
        have HPs32 := Lib.hid (HPs31.out.keep hb)
        have HQs32 := Lib.hid (HQs31.out.keep hb)
        have HRas32 := Lib.hid (HRas31.out.keep hb)
        have HRbs32 := Lib.hid (HRbs31.out.keep hb)
        have HCas32 := Lib.hid (HCas31.out.keep hb)
        have HCbs32 := Lib.hid (HCbs31.out.keep hb)
        clear hb
        rw [HSc.out]
        have hs0 : 0 ≤ shareN m (v p) (n - 1) := shareN_nn (H6.out p hpn)
        have hs1 : shareN m (v p) (n - 1) ≤ 700 := by
          have h1 := shareN_sum (k := n - 1) (H6.out p hpn)
          have h2 := (sumTo_bd (H6.out p hpn) m (Nat.le_refl _)).2
          have h3 : shareN m (v p) (n - 1) * 1 ≤ shareN m (v p) (n - 1) * ((n - 1 + 1 : Nat) : Int) := Int.mul_le_mul_of_nonneg_left (by omega) hs0
          omega
        generalize shareN m (v p) (n - 1) = sh at *
        go_wp2_with fail
        obtain ⟨wB, hwB⟩ : ∃ wB : World, wB = w17 := ⟨_, rfl⟩
        subst hwB
        go_loopw [143] (fun x wr => ∃ k : Nat, k ≤ 5 ∧ x = .int .i64 k ∧ Below wB.heap.size wB wr) (fun x _ => 5 - (intOf x).toNat)
        case atStart => exact ⟨0, Nat.zero_le _, rfl, Below.refl _ _⟩
        case round =>
          obtain ⟨k, hk, rfl, hbel⟩ := hrel
          have HBs33 := Lib.hid (HBs32.out.trans (hbel.mono HBs32.out.size))
          have HOs33 := Lib.hid (HOs32.out.below hbel)
          have HPs33 := Lib.hid (HPs32.out.keep hbel)
          have HQs33 := Lib.hid (HQs32.out.keep hbel)
          have HRas33 := Lib.hid (HRas32.out.keep hbel)
          have HRbs33 := Lib.hid (HRbs32.out.keep hbel)
          have HCas33 := Lib.hid (HCas32.out.keep hbel)
          have HCbs33 := Lib.hid (HCbs32.out.keep hbel)
          have HBB := Lib.hid hbel
          clear hbel
          by_cases hlt : k < 5
          · go_wp2_with fail
            refine (few_any _ n c L v _ (HV.out.below HBs33.out)).mono ?_
            rintro e w21 ⟨x, rfl, hx, hb⟩
            obtain ⟨Aw21, cw21, rfl, hRowsw21, -⟩ := hx.rows
            have HBs34 := Lib.hid (HBs33.out.trans (hb.mono HBs33.out.size))
            have HOs34 := Lib.hid (HOs33.out.below hb)
            have HBBs34 := Lib.hid (HBB.out.trans (hb.mono HBB.out.size))
            have HRww21 := Lib.hid hRowsw21
            clear hb hx hRowsw21
            go_wp2_with fail
            refine (list_any D m cd d _ (HD.out.below HBs34.out)).mono ?_
            rintro e w22 ⟨x, rfl, hx, hb⟩
            obtain ⟨Aw22, cw22, rfl, hIw22⟩ := hx.sl0
            have HBs35 := Lib.hid (HBs34.out.trans (hb.mono HBs34.out.size))
            have HOs35 := Lib.hid (HOs34.out.below hb)
            have HBBs35 := Lib.hid (HBBs34.out.trans (hb.mono HBBs34.out.size))
            have HRww21s35 := Lib.hid (HRww21.out.keep hb)
            have HIdw22 := Lib.hid hIw22
            clear hb hx hIw22
            go_wp2_with fail
            refine Ro.use (FairS_few HRww21s35.out HIdw22.out (show min n 6 = n by omega) (show min m 9 = m by omega) (by omega) (short9s _ _) (by omega) HO2.out (by omega) (by omega)) ?_
            intro w23 hd23
            have HBs36 := Lib.hid (HBs35.out.trans ((hd23.below _).mono HBs35.out.size))
            have HOs36 := Lib.hid (HOs35.out.below (hd23.below _))
            have HBBs36 := Lib.hid (HBBs35.out.trans ((hd23.below _).mono HBBs35.out.size))
            have HRww21s36 := Lib.hid (HRww21s35.out.keep (hd23.below _))
            have HIdw22s36 := Lib.hid (HIdw22.out.keep (hd23.below _))
            clear hd23
            go_wp2_with fail
            refine (list_any D m cd d _ (HD.out.below HBs36.out)).mono ?_
            rintro e w24 ⟨x, rfl, hx, hb⟩
            obtain ⟨Aw24, cw24, rfl, hIw24⟩ := hx.sl0
            have HBs37 := Lib.hid (HBs36.out.trans (hb.mono HBs36.out.size))
            have HOs37 := Lib.hid (HOs36.out.below hb)
            have HBBs37 := Lib.hid (HBBs36.out.trans (hb.mono HBBs36.out.size))
            have HIdw24 := Lib.hid hIw24
            clear hb hx hIw24
            go_wp2_with fail
            refine Ro.use (FairS_few (HOs37.out.rowsAt) HIdw24.out (show min n 6 = n by omega) (show min m 9 = m by omega) (by omega) (fun _ _ => by omega) (by omega) HOkw.out (by omega) (by omega)) ?_
            intro w25 hd25
            have HBs38 := Lib.hid (HBs37.out.trans ((hd25.below _).mono HBs37.out.size))
            have HOs38 := Lib.hid (HOs37.out.below (hd25.below _))
            have HBBs38 := Lib.hid (HBBs37.out.trans ((hd25.below _).mono HBBs37.out.size))
            clear hd25
            rw [fair_sc hB0]
            generalize allB (fairToB n m v d (k : Int)) n = fb at *
            have hfb : (fb != fb) = false := by simp
            go_wp2
            go_roundw
            case rel => exact ⟨k + 1, by omega, by go_num, HBBs38.out⟩
            case measure => simp [intOf]; omega
          · obtain rfl : k = 5 := by omega
            have HE : Hid ((envAll n m v d n).length ≤ 16) := Lib.hid (by
              have h1 := envAll_len n m v d n
              have h2 : n * n ≤ 4 * 4 := Nat.mul_le_mul (by omega) (by omega)
              omega)
            go_wp2_with fail
            refine Ro.use (eqPrs_any _ _ _ _ (envAll n m v d n) _ HPs33.out HQs33.out (by have := HE.out; omega)) ?_
            intro w41 hd41
            have HBs39 := Lib.hid (HBs33.out.trans ((hd41.below _).mono HBs33.out.size))
            have HRas39 := Lib.hid (HRas33.out.keep (hd41.below _))
            have HRbs39 := Lib.hid (HRbs33.out.keep (hd41.below _))
            have HCas39 := Lib.hid (HCas33.out.keep (hd41.below _))
            have HCbs39 := Lib.hid (HCbs33.out.keep (hd41.below _))
            clear hd41
            go_wp2_with fail
            refine Ro.use (equal_any _ _ m m _ _ _ _ _ HRas39.out HRbs39.out (by omega) (by omega)) ?_
            intro w42 hd42
            rw [eqB_sameS]
            have HBs40 := Lib.hid (HBs39.out.trans ((hd42.below _).mono HBs39.out.size))
            have HCas40 := Lib.hid (HCas39.out.keep (hd42.below _))
            have HCbs40 := Lib.hid (HCbs39.out.keep (hd42.below _))
            clear hd42
            go_wp2_with fail
            refine Ro.use (equal_any _ _ m m _ _ _ _ _ HCas40.out HCbs40.out (by omega) (by omega)) ?_
            intro w43 hd43
            rw [eqB_sameS]
            have HBs41 := Lib.hid (HBs40.out.trans ((hd43.below _).mono HBs40.out.size))
            clear hd43
            have hp0 : 0 ≤ sh * B := Int.mul_nonneg hs0 (by omega)
            have hp1 : sh * B ≤ 700 * 5 := Int.mul_le_mul hs1 hB5 (by omega) (by omega)
            have hp2 : B * sh = sh * B := Int.mul_comm _ _
            rw [hp2]
            have hp3 : wrap64 (sh * B) = sh * B := IntWalk.wrap64_in _ ⟨by omega, by omega⟩
            go_wp2_with fail
            refine (awake_any _).mono ?_
            rintro e w46 ⟨rfl, hb46⟩
            have HBs42 := Lib.hid (HBs41.out.trans (hb46.mono HBs41.out.size))
            clear hb46
            go_wp2
            go_ret
            exact ⟨rfl, HBs42.out⟩

theorem splitScaled_walk (A : Option Addr) (n c : Nat) (L : Nat → Nat) (v : Nat → Nat → Int) (D : Option Addr) (nd cd : Nat) (d : Nat → Int) (a b : Int) (W : World) (hv : ArgR W A n c L v) (hd : ArgI W D nd cd d) (_ha : (Lit.int .i64 a).wf = true) (_hb : (Lit.int .i64 b).wf = true) :
    Calls Try.prog 11 #[.slice A n c, .slice D nd cd, .int .i64 a, .int .i64 b] W fun e W' => e = .returned (.bool true) ∧ Below W.heap.size W W' := by
  cases hok : okDiv n L v nd d with
  | false => exact splitScaled_bad A n c L v D nd cd d a b W hv hd hok
  | true => exact splitScaled_good A n c L v D nd cd d a b W hv hd hok
end Go.Proofs.Ytkgikehagkpmoaa
