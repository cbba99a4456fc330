import Derived.Test.YthbahfmcmbjglaaJv
import Derived.Test.YthbahfmcmbjglaaQh
import Derived.Test.YthbahfmcmbjglaaQi
import Derived.Test.YthbahfmcmbjglaaQo
namespace Go.Proofs.Ythbahfmcmbjglaa
open Go.RowKit

theorem by_job (q : Int) {n : Nat} (h1 : 1 ≤ n) (h2 : n ≤ 8) : ∃ u : Nat, u < n ∧ wrap64 ((IntKind.u64.wrap q).tmod (n : Int)) = (u : Int) := by
  rw [IntKind.wrap_u64]
  have h3 : 0 ≤ q % 18446744073709551616 := Int.emod_nonneg _ (by omega)
  rw [Int.tmod_eq_emod_of_nonneg h3]
  generalize q % 18446744073709551616 = x at *
  have h4 : 0 ≤ x % (n : Int) := Int.emod_nonneg _ (by omega)
  have h5 : x % (n : Int) < n := Int.emod_lt_of_pos _ (by omega)
  refine ⟨(x % (n : Int)).toNat, by omega, ?_⟩
  generalize x % (n : Int) = y at *
  unfold wrap64
  omega

set_option maxHeartbeats 8000000 in
set_option maxRecDepth 1000000 in
theorem datesSlower_walk (A : Option Addr) (n c : Nat) (J : Nat → Nat → Int) (q : Int) (W : World) (h : ArgK 4 W A n c J) (_ : (Lit.int .i64 q).wf = true) : TrueBelow 11 #[.slice A n c, .int .i64 q] W := by
  have hnm : n ≤ maxLen := Nat.le_trans h.1 h.2.1
  have HRW : Hid (∀ w', Below W.heap.size W w' → Recs 4 w' A n J) := Lib.hid (fun w' hb => h.2.2.2.keep hb)
  have Hn := Lib.hid hnm
  clear h hnm
  show Calls _ _ _ _ _
  go_enter Try.func11, Try.ntmps11
  go_wp2_with fail
  refine (refValid_any A n c J W (HRW.out W (Below.refl _ _)) Hn.out).use fun w1 hb1 => ?_
  have HB1 := Lib.hid hb1
  clear hb1
  cases hok : okJ n J with
  | false =>
    clear hok
    go_wp2_with fail
    refine (awake_any w1).use fun w8 hb8 => ?_
    have HB8 := Lib.hid (HB1.out.trans (hb8.mono HB1.out.size))
    clear hb8
    go_wp2
    go_ret
    exact ⟨rfl, HB8.out⟩
  | true =>
    have HOk := Lib.hid hok
    have hn8 := (okJ_iff.1 hok).1
    have HJ := Lib.hid (okJ_iff.1 hok).2
    have hmn : min n 10 = n := by omega
    have HMn := Lib.hid hmn
    have hn80 := hn8.1
    have hn81 := hn8.2
    obtain ⟨u, hu, hU⟩ := by_job q hn80 hn81
    have hnz : ¬ (n : Int) = 0 := by omega
    have hn0 : (0 : Int) < n := by omega
    clear hok hmn hn8
    go_wp2_with fail
    refine (of_any A n c J w1 (HRW.out w1 HB1.out) Hn.out).mono ?_
    rintro e w2 ⟨x, rfl, hx, hb2⟩
    rw [HMn.out] at hx
    obtain ⟨Ax, cx, rfl, -⟩ := hx.form
    obtain ⟨G, cG, ev, hcs, hfr, hbG, hGl, hmc2, hP1, hE1⟩ := hx.put (k := u) (i := 0) hu (by omega) (J u 0 + 1)
    injection ev with ev1 ev2 ev3
    subst ev1 ev3
    have g0 : w2.cell? ⟨G, u * 4, none⟩ = some (.int .i64 (J u 0)) := hcs 0 (by omega)
    have hfr0 : w2.frozen? ⟨G, u * 4, none⟩ = false := hfr
    obtain ⟨A0, c0, e0, -, hR0, -⟩ := hP1.form
    injection e0 with e1 e2 e3
    subst e1 e3
    have HB2 := Lib.hid (HB1.out.trans (hb2.mono HB1.out.size))
    have HX3 : Hid (Recs 4 (w2.setCell ⟨G, u * 4, none⟩ (.int .i64 (J u 0 + 1))) (some ⟨G, 0, none⟩) n (slJ J u)) := Lib.hid hR0
    have hGW : W.heap.size ≤ G := Nat.le_trans HB1.out.size hbG
    have HB3 : Hid (Below W.heap.size W (w2.setCell ⟨G, u * 4, none⟩ (.int .i64 (J u 0 + 1)))) := Lib.hid (HB2.out.setCell (p := ⟨G, u * 4, none⟩) hGW _)
    obtain ⟨⟨hj1, hj2⟩, -⟩ := HJ.out u hu
    have huI : (u : Int) < n := by omega
    have hu0 : (0 : Int) ≤ u := by omega
    clear hcs hfr hP1 hE1 hR0 hx hb2 ev2 e2
    go_wp2_with fail
    clear g0 hfr0
    generalize w2.setCell ⟨G, u * 4, none⟩ (.int .i64 (J u 0 + 1)) = w3 at *
    obtain ⟨Ax, hAx⟩ : ∃ Ax : Option Addr, Ax = some ⟨G, 0, none⟩ := ⟨_, rfl⟩
    rw [← hAx] at HX3 ⊢
    clear hAx
    go_wp2_with fail
    refine (of_any A n c J w3 (HRW.out w3 HB3.out) Hn.out).mono ?_
    rintro e w4 ⟨x, rfl, hx, hb⟩
    rw [HMn.out] at hx
    obtain ⟨Aa, ca, rfl, -, hRx, -, hcx, hcm⟩ := hx.form
    have Ha := Lib.hid hRx
    have HB4 := Lib.hid (HB3.out.trans (hb.mono HB3.out.size))
    have HX4 := Lib.hid (HX3.out.keep hb)
    clear hx hRx hb hcx hcm
    go_wp2_with fail
    refine (delay_ok Aa n ca J w4 Ha.out HOk.out).mono ?_
    rintro e w5 ⟨a, rfl, ha, hb⟩
    have HB5 := Lib.hid (HB4.out.trans (hb.mono HB4.out.size))
    have HX5 := Lib.hid (HX4.out.keep hb)
    have HDa := Lib.hid ha
    clear ha
    clear hb
    cases hok2 : okJ n (slJ J u) with
    | false =>
      have HBad := Lib.hid hok2
      clear hok2
      go_wp2_with fail
      refine (delay_bad Ax n cx (slJ J u) w5 HX5.out Hn.out HBad.out).use fun w6 hb6 => ?_
      have HB6 := Lib.hid (HB5.out.trans (hb6.mono HB5.out.size))
      clear hb6
      go_wp2_with fail
      refine (awake_any w6).use fun w8 hb8 => ?_
      have HB8 := Lib.hid (HB6.out.trans (hb8.mono HB6.out.size))
      clear hb8
      go_wp2
      go_ret
      exact ⟨rfl, HB8.out⟩
    | true =>
    have HOk2 := Lib.hid hok2
    clear hok2
    go_wp2_with fail
    refine (delay_ok Ax n cx (slJ J u) w5 HX5.out HOk2.out).mono ?_
    rintro e w6 ⟨b, rfl, hbd, hb⟩
    have HB6 := Lib.hid (HB5.out.trans (hb.mono HB5.out.size))
    have HX6 := Lib.hid (HX5.out.keep hb)
    have hd1 : decide (a ≤ b) = true := decide_eq_true (delay_slower HOk.out HOk2.out HDa.out hbd)
    have hd2 : decide (smT (enF (plS 1 n J).p (plS 1 n J).m) n < smT (enF (plS 1 n (slJ J u)).p (plS 1 n (slJ J u)).m) n) = true := decide_eq_true (short_slower HOk.out HOk2.out hu)
    have hd3 : decide (lsV n J ≤ lsV n (slJ J u)) = true := decide_eq_true (ls_slower J u)
    have hms := most_slower (job := u) HOk.out
    have hp1 := (hv_pc (J := J) hn81).1
    have hp2 := (hv_pc (J := slJ J u) hn81).1
    clear hbd hb
    go_wp2_with fail
    refine (of_any A n c J w6 (HRW.out w6 HB6.out) Hn.out).mono ?_
    rintro e w7 ⟨x, rfl, hx, hb⟩
    rw [HMn.out] at hx
    obtain ⟨Ab, cb, rfl, -, hRx, -, hcx, hcm⟩ := hx.form
    have Hb := Lib.hid hRx
    have HB7 := Lib.hid (HB6.out.trans (hb.mono HB6.out.size))
    have HX7 := Lib.hid (HX6.out.keep hb)
    clear hx hRx hb hcx hcm
    go_wp2_with fail
    refine (short_ok Ab n cb J w7 Hb.out HOk.out).mono ?_
    rintro e w8 ⟨v1, rfl, -, hb⟩
    have HB8 := Lib.hid (HB7.out.trans (hb.mono HB7.out.size))
    have HX8 := Lib.hid (HX7.out.keep hb)
    clear hb
    go_wp2_with fail
    refine (short_ok Ax n cx (slJ J u) w8 HX8.out HOk2.out).mono ?_
    rintro e w9 ⟨v2, rfl, -, hb⟩
    have HB9 := Lib.hid (HB8.out.trans (hb.mono HB8.out.size))
    have HX9 := Lib.hid (HX8.out.keep hb)
    clear hb
    go_wp2_with fail
    refine (of_any A n c J w9 (HRW.out w9 HB9.out) Hn.out).mono ?_
    rintro e wA ⟨x, rfl, hx, hb⟩
    rw [HMn.out] at hx
    obtain ⟨Ac, cc0, rfl, -, hRx, -, hcx, hcm⟩ := hx.form
    have Hc := Lib.hid hRx
    have HBA := Lib.hid (HB9.out.trans (hb.mono HB9.out.size))
    have HXA := Lib.hid (HX9.out.keep hb)
    clear hx hRx hb hcx hcm
    go_wp2_with fail
    refine (least_nil Ac n cc0 J wA Hc.out HOk.out).mono ?_
    rintro e wB ⟨v3, rfl, hb⟩
    have HBB := Lib.hid (HBA.out.trans (hb.mono HBA.out.size))
    have HXB := Lib.hid (HXA.out.keep hb)
    clear hb
    go_wp2_with fail
    refine (least_nil Ax n cx (slJ J u) wB HXB.out HOk2.out).mono ?_
    rintro e wC ⟨v4, rfl, hb⟩
    have HBC := Lib.hid (HBB.out.trans (hb.mono HBB.out.size))
    have HXC := Lib.hid (HXB.out.keep hb)
    clear hb
    go_wp2_with fail
    refine (of_any A n c J wC (HRW.out wC HBC.out) Hn.out).mono ?_
    rintro e wD ⟨x, rfl, hx, hb⟩
    rw [HMn.out] at hx
    obtain ⟨Ad, cd, rfl, -, hRx, -, hcx, hcm⟩ := hx.form
    have Hd := Lib.hid hRx
    have HBD := Lib.hid (HBC.out.trans (hb.mono HBC.out.size))
    have HXD := Lib.hid (HXC.out.keep hb)
    clear hx hRx hb hcx hcm
    go_wp2_with fail
    refine (most_ok Ad n cd J wD Hd.out HOk.out).use fun wE hb => ?_
    have HBE := Lib.hid (HBD.out.trans (hb.mono HBD.out.size))
    have HXE := Lib.hid (HXD.out.keep hb)
    clear hb
    go_wp2_with fail
    refine (most_ok Ax n cx (slJ J u) wE HXE.out HOk2.out).use fun wF hb => ?_
    have HBF := Lib.hid (HBE.out.trans (hb.mono HBE.out.size))
    have HXF := Lib.hid (HXE.out.keep hb)
    clear hb
    generalize smT (enF (plS 1 n J).p (plS 1 n J).m) n = s1 at *
    generalize smT (enF (plS 1 n (slJ J u)).p (plS 1 n (slJ J u)).m) n = s2 at *
    generalize lsV n J = l1 at *
    generalize lsV n (slJ J u) = l2 at *
    generalize (hvF (wtS n (wtM J)) (fitB n J) (2 ^ n)).1 = pa at *
    generalize (hvF (wtS n (wtM (slJ J u))) (fitB n (slJ J u)) (2 ^ n)).1 = qa at *
    have hpa8 : pc8 pa ≤ 8 := by unfold pc8; omega
    have hqa8 : pc8 qa ≤ 8 := by unfold pc8; omega
    go_wp2_with fail
    go_loopw [22, 26] (fun st ct wr => ∃ s : Nat, s < 256 ∧ st = .int .i64 s ∧ ct = .int .i64 ((pc8 pa : Int) - pc8 s) ∧ pc8 s ≤ pc8 pa ∧ wF = wr) (fun st _ _ => (intOf st).toNat)
    case atStart => exact ⟨pa, hp1, rfl, by rw [Int.sub_self], Nat.le_refl _, rfl⟩
    case round =>
      obtain ⟨s, hs, rfl, rfl, hle, rfl⟩ := hrel
      by_cases hp : 0 < s
      · obtain ⟨h1, h2, h3⟩ := lwX_spec s hs hp
        have e1 : ((s - 1 : Nat) : Int) = (s : Int) - 1 := by omega
        rw [e1] at h1
        generalize lwX s = s' at *
        have HP3 := Lib.hid h3
        have HLe := Lib.hid hle
        have hps : pc8 s ≤ 8 := by omega
        clear h3 hle
        go_wp2
        go_roundw
        case rel => exact ⟨s', by omega, rfl, val_int (by have := HP3.out; have := HLe.out; omega), by have := HP3.out; have := HLe.out; omega, by first | rfl | trivial⟩
        case measure => simp [intOf]; omega
      · obtain rfl : s = 0 := by omega
        have e0 : ((pc8 pa : Int) - pc8 0) = pc8 pa := by simp [pc8]
        rw [e0]
        go_wp2_with fail
        go_loopw [24, 26] (fun st ct wr => ∃ s : Nat, s < 256 ∧ st = .int .i64 s ∧ ct = .int .i64 ((pc8 pa : Int) - ((pc8 qa : Int) - pc8 s)) ∧ pc8 s ≤ pc8 qa ∧ wF = wr) (fun st _ _ => (intOf st).toNat)
        case atStart => exact ⟨qa, hp2, rfl, by rw [Int.sub_self, Int.sub_zero], Nat.le_refl _, rfl⟩
        case round =>
          obtain ⟨s, hs, rfl, rfl, hle2, rfl⟩ := hrel
          by_cases hp : 0 < s
          · obtain ⟨h1, h2, h3⟩ := lwX_spec s hs hp
            have e1 : ((s - 1 : Nat) : Int) = (s : Int) - 1 := by omega
            rw [e1] at h1
            generalize lwX s = s' at *
            have HP3 := Lib.hid h3
            have HLe := Lib.hid hle2
            have hps : pc8 s ≤ 8 := by omega
            clear h3 hle2
            go_wp2
            go_roundw
            case rel => exact ⟨s', by omega, rfl, val_int (by have := HP3.out; have := HLe.out; omega), by have := HP3.out; have := HLe.out; omega, by first | rfl | trivial⟩
            case measure => simp [intOf]; omega
          · obtain rfl : s = 0 := by omega
            have e0 : ((pc8 pa : Int) - ((pc8 qa : Int) - pc8 0)) = (pc8 pa : Int) - pc8 qa := by simp [pc8]
            rw [e0]
            have hd4 : decide ((0 : Int) ≤ (pc8 pa : Int) - pc8 qa) = true := decide_eq_true (by omega)
            generalize (pc8 pa : Int) - pc8 qa = dc at *
            go_wp2_with fail
            refine (awake_any _).use fun w8 hb8 => ?_
            have HB8 := Lib.hid (HBF.out.trans (hb8.mono HBF.out.size))
            clear hb8
            go_wp2
            go_ret
            exact ⟨rfl, HB8.out⟩
end Go.Proofs.Ythbahfmcmbjglaa
