import Derived.Test.YtbgekacfimgkeaaJo
import Derived.Test.YtbgekacfimgkeaaQx
namespace Go.Proofs.Ytbgekacfimgkeaa
open Go.RowKit

theorem whole_top {n m : Nat} {J p : Nat → Nat → Int} (hw : whB m n J p = true) (k : Nat) : enF p m k ≤ 1000 := by
  obtain ⟨hp, -, -⟩ := whole_parts hw
  have : ∀ a, a ≤ m → enF p a k ≤ 1000 := by
    intro a
    induction a with
    | zero => intro _; show (0 : Int) ≤ 1000; omega
    | succ a ih =>
      intro ha
      have h1 := plP_iff.1 (hp a (by omega))
      rw [enF]
      unfold upd
      split
      · omega
      · exact ih (by omega)
  exact this m (Nat.le_refl _)

set_option maxHeartbeats 2000000 in
set_option maxRecDepth 1000000 in
theorem worst_any (A : Option Addr) (n c g bx : Nat) (J : Nat → Nat → Int) (e : Nat → Int) (w : World) (h : Recs 4 w A n J) (hok : okJ n J = true) (hb : w.cell? ⟨bx, 0, none⟩ = some (.slice A n c)) (hR : RowI w g n e) (he : ∀ k, k < n → 0 ≤ e k ∧ e k ≤ 1000) :
    Calls Try.prog 48 #[.slice (some ⟨g, 0, none⟩) n n, .pointer (some ⟨bx, 0, none⟩)] w fun r w' => ∃ x, r = .returned (.tuple #[.int .i64 x, .int .i64 (smT e n)]) ∧ IsDl n J e x ∧ Dn w w' := by
  have H := Lib.hid h
  have HO := Lib.hid hok
  have HE := Lib.hid hR
  have HN := Lib.hid he
  have HBx := Lib.hid hb
  have hn8 := (okJ_iff.1 hok).1.2
  have HS : Hid (∀ k, smT e (k + 1) = smT e k + e k) := Lib.hid (fun _ => rfl)
  have HSr : Hid (∀ k, k ≤ n → 0 ≤ smT e k ∧ smT e k ≤ 1000 * k) := Lib.hid (by
    intro k
    induction k with
    | zero => intro _; exact ⟨Int.le_refl _, by show (0 : Int) ≤ _; omega⟩
    | succ k ih =>
      intro hk
      have h1 := ih (by omega)
      have h2 := he k (by omega)
      rw [smT]
      push_cast
      omega)
  have h00 : smT e 0 = 0 := rfl
  clear h hok hR he hb
  go_enter Try.func48, Try.ntmps48
  go_wp2
  go_loopw [5, 6, 11] (fun s su i wr => ∃ (k : Nat) (x : Int), k ≤ n ∧ i = .int .i64 k ∧ s = .int .i64 x ∧ su = .int .i64 (smT e k) ∧ (k = 0 → x = -1073741824) ∧ (0 < k → IsDl k J e x) ∧ -1073741824 ≤ x ∧ Dn w wr) (fun _ _ i _ => n - (intOf i).toNat)
  case atStart => exact ⟨0, _, Nat.zero_le _, rfl, rfl, by rw [h00], fun _ => rfl, fun h => absurd h (by omega), Int.le_refl _, Dn.refl _⟩
  case round =>
    obtain ⟨k, x, hk, rfl, rfl, rfl, hx0, hxk, hxl, hD⟩ := hrel
    have HX0 := Lib.hid hx0
    have HXk := Lib.hid hxk
    obtain ⟨hs0, hs1⟩ := HSr.out k hk
    clear hx0 hxk h00
    by_cases hlt : k < n
    · have hc := (HE.out.dn hD).cell hlt
      have hbx : wr.cell? ⟨bx, 0, none⟩ = some (.slice A n c) := ((hD.below _).cell (World.block_lt_of_cell? _ _ HBx.out)).trans HBx.out
      obtain ⟨b, o, rfl, c0, c1, c2, c3⟩ := (H.out.dn hD).four hlt
      have hek := HN.out k hlt
      have hJ := (okJ_iff.1 HO.out).2 k hlt
      obtain ⟨-, -, ⟨hJ1, hJ2⟩, -⟩ := hJ
      obtain ⟨hek1, hek2⟩ := hek
      have HSk := Lib.hid (HS.out k)
      have hs8 : smT e k ≤ 8000 := by omega
      have hk8 : (k : Int) < 8 := by omega
      generalize smT e k = sm at *
      clear hs1
      rcases Int.lt_or_le x (e k - J k 2) with hx | hx
      · have HI : Hid (IsDl (k + 1) J e (e k - J k 2)) := Lib.hid ⟨fun a ha => by
          rcases Nat.lt_or_ge a k with h3 | h3
          · have := (HXk.out (by omega)).1 a h3
            omega
          · obtain rfl : a = k := by omega
            exact Int.le_refl _, k, by omega, rfl⟩
        go_wp2
        go_roundw
        case rel => exact ⟨k + 1, e k - J k 2, by omega, by go_num, val_int (by omega), by rw [HSk.out], fun h => absurd h (by omega), fun _ => HI.out, by omega, hD⟩
        case measure => simp [intOf]; omega
      · have HI : Hid (IsDl (k + 1) J e x) := Lib.hid (by
          have hk0 : 0 < k := by
            rcases Nat.eq_zero_or_pos k with h | h
            · have := HX0.out h
              omega
            · exact h
          obtain ⟨h1, a, h2, h3⟩ := HXk.out hk0
          refine ⟨fun a ha => ?_, a, by omega, h3⟩
          rcases Nat.lt_or_ge a k with h4 | h4
          · exact h1 a h4
          · obtain rfl : a = k := by omega
            exact hx)
        go_wp2
        go_roundw
        case rel => exact ⟨k + 1, x, by omega, by go_num, val_int (by omega), by rw [HSk.out], fun h => absurd h (by omega), fun _ => HI.out, hxl, hD⟩
        case measure => simp [intOf]; omega
    · obtain rfl : k = n := by omega
      have hn1 := (okJ_iff.1 HO.out).1.1
      go_wp2
      go_returns
      exact ⟨x, rfl, HXk.out (by omega), hD⟩

set_option maxHeartbeats 8000000 in
set_option maxRecDepth 1000000 in
theorem datesBest_walk (A : Option Addr) (n c : Nat) (J : Nat → Nat → Int) (B : Option Addr) (m c2 : Nat) (p : Nat → Nat → Int) (W : World) (h : ArgK 4 W A n c J) (hf : ArgK 3 W B m c2 p) : TrueBelow 11 #[.slice A n c, .slice B m c2] W := by
  have hnm : n ≤ maxLen := Nat.le_trans h.1 h.2.1
  have hmm : m ≤ maxLen := Nat.le_trans hf.1 hf.2.1
  have hb0 := (Below.refl W.heap.size W).alloc (Nat.le_refl _) (.cells #[.slice A n c] 22)
  have hbox : (W.alloc (.cells #[.slice A n c] 22)).cell? ⟨W.heap.size, 0, none⟩ = some (.slice A n c) := by simp [World.cell?_alloc_at]
  obtain ⟨W1, hW1⟩ : ∃ W1, W1 = W.alloc (.cells #[.slice A n c] 22) := ⟨_, rfl⟩
  have hs1 : W1.heap.size = W.heap.size + 1 := by rw [hW1]; simp
  have HW1 := Lib.hid hW1
  rw [← hW1] at hb0 hbox
  have HBW : Hid (∀ w', Below W1.heap.size W1 w' → Below W.heap.size W w') := Lib.hid (fun w' hb => hb0.trans (hb.mono (by omega)))
  have HX : Hid (∀ w', Below W1.heap.size W1 w' → w'.cell? ⟨W.heap.size, 0, none⟩ = some (.slice A n c)) := Lib.hid (fun w' hb => (hb.cell (by show W.heap.size < _; omega)).trans hbox)
  have HRW : Hid (∀ w', Below W1.heap.size W1 w' → Recs 4 w' A n J) := Lib.hid (fun w' hb => h.2.2.2.keep (HBW.out w' hb))
  have HPW : Hid (∀ w', Below W1.heap.size W1 w' → Recs 3 w' B m p) := Lib.hid (fun w' hb => hf.2.2.2.keep (HBW.out w' hb))
  have Hn := Lib.hid hnm
  have Hm := Lib.hid hmm
  have Hm11 := Lib.hid (show min m 200 ≤ maxLen by omega)
  clear h hf hnm hmm hb0 hbox hs1 hW1
  show Calls _ _ _ _ _
  go_enter Try.func11, Try.ntmps11
  have hbx1 := HX.out W1 (Below.refl _ _)
  rw [HW1.out] at hbx1
  go_wp2_with fail
  rw [← HW1.out] at hbx1 ⊢
  clear hbx1
  refine (of_any A n c J W1 (HRW.out W1 (Below.refl _ _)) Hn.out).mono ?_
  rintro e w2 ⟨x, rfl, hx, hb2⟩
  obtain ⟨Ax, cx, rfl, -, hRx, -, hcx, hcm⟩ := hx.form
  have HXx := Lib.hid hRx
  have HB2 := Lib.hid hb2
  have Hm10 := Lib.hid (show min n 10 ≤ maxLen by have := Hn.out; omega)
  have HMin := Lib.hid (okJ_min n J)
  clear hx hRx hb2 hcx hcm
  cases hok : okJ n J with
  | false =>
    have HOk := Lib.hid hok
    have HBad := Lib.hid (show okJ (min n 10) J = false by rw [HMin.out, HOk.out])
    clear hok
    go_wp2_with fail
    refine (plan_bad Ax (min n 10) cx J w2 HXx.out Hm10.out HBad.out).use fun w3 hb3 => ?_
    have HB3 := Lib.hid (HB2.out.trans (hb3.mono HB2.out.size))
    have hbx := HX.out w3 HB3.out
    clear hb3
    go_wp2_with fail
    refine (of_any A n c J w3 (HRW.out w3 HB3.out) Hn.out).mono ?_
    rintro e w4 ⟨x, rfl, hx, hb4⟩
    obtain ⟨Ay, cy, rfl, -, hRx, -, hcx, hcm⟩ := hx.form
    have HY := Lib.hid hRx
    have HB4 := Lib.hid (HB3.out.trans (hb4.mono HB3.out.size))
    clear hx hRx hb4 hcx hcm hbx
    go_wp2_with fail
    refine (short_bad Ay (min n 10) cy J w4 HY.out Hm10.out HBad.out).use fun w5 hb5 => ?_
    have HB5 := Lib.hid (HB4.out.trans (hb5.mono HB4.out.size))
    have hbx := HX.out w5 HB5.out
    clear hb5
    go_wp2_with fail
    refine (of_any A n c J w5 (HRW.out w5 HB5.out) Hn.out).mono ?_
    rintro e w6 ⟨x, rfl, hx, hb6⟩
    obtain ⟨Az, cz, rfl, -, hRx, -, hcx, hcm⟩ := hx.form
    have HZ := Lib.hid hRx
    have HB6 := Lib.hid (HB5.out.trans (hb6.mono HB5.out.size))
    clear hx hRx hb6 hcx hcm hbx
    go_wp2_with fail
    refine (delay_bad Az (min n 10) cz J w6 HZ.out Hm10.out HBad.out).use fun w7 hb7 => ?_
    have HB7 := Lib.hid (HB6.out.trans (hb7.mono HB6.out.size))
    clear hb7
    go_wp2_with fail
    refine (awake_any w7).use fun w8 hb8 => ?_
    have HB8 := Lib.hid (HB7.out.trans (hb8.mono HB7.out.size))
    clear hb8
    go_wp2
    go_ret
    exact ⟨rfl, HBW.out _ HB8.out⟩
  | true =>
    have HOk := Lib.hid hok
    have hn8 := (okJ_iff.1 hok).1
    have hmn : min n 10 = n := by omega
    rw [hmn] at HXx ⊢
    have HMn := Lib.hid hmn
    have hn80 := hn8.1
    have hn81 := hn8.2
    have HW0 := Lib.hid (pl_whole (ru := 0) hok)
    have HW1p := Lib.hid (pl_whole (ru := 1) hok)
    have hm0 := plS_m 0 hok
    have hm1 := plS_m 1 hok
    have Hmx0 := Lib.hid (show (plS 0 n J).m ≤ maxLen by unfold maxLen; omega)
    have Hmx1 := Lib.hid (show (plS 1 n J).m ≤ maxLen by unfold maxLen; omega)
    have HR0 := Lib.hid (fun k (_ : k < n) => show 0 ≤ enF (plS 0 n J).p (plS 0 n J).m k ∧ enF (plS 0 n J).p (plS 0 n J).m k ≤ 1000 by have := enF_rng (plS 0 n J).p (plS 0 n J).m (plS_rng2 0 hok) k; omega)
    have HR1 := Lib.hid (fun k (_ : k < n) => show 0 ≤ enF (plS 1 n J).p (plS 1 n J).m k ∧ enF (plS 1 n J).p (plS 1 n J).m k ≤ 1000 by have := enF_rng (plS 1 n J).p (plS 1 n J).m (plS_rng2 1 hok) k; omega)
    have HShort := Lib.hid (fun (mm : Nat) (hw : whB mm n J p = true) => short_least hok hw)
    have HPlan := Lib.hid (fun (mm : Nat) (d : Int) (hw : whB mm n J p = true) (hd : IsDl n J (enF (plS 0 n J).p (plS 0 n J).m) d) => plan_least hok hw hd)
    have HSum := Lib.hid (show 0 ≤ smT (enF (plS 1 n J).p (plS 1 n J).m) n from smT_nonneg (fun k hk => (HR1.out k hk).1))
    clear hok hmn Hm10 hn8
    go_wp2_with fail
    refine (plan_ok Ax n cx J w2 HXx.out HOk.out).mono ?_
    rintro e w3 ⟨v, rfl, hv, hb3⟩
    obtain ⟨A1, c1, rfl, -, hR1, -⟩ := hv.form
    have HV1 := Lib.hid hR1
    have HB3 := Lib.hid (HB2.out.trans (hb3.mono HB2.out.size))
    have hbx := HX.out w3 HB3.out
    clear hv hR1 hb3
    go_wp2_with fail
    refine (of_any A n c J w3 (HRW.out w3 HB3.out) Hn.out).mono ?_
    rintro e w4 ⟨x, rfl, hx, hb4⟩
    rw [HMn.out] at hx
    obtain ⟨Ay, cy, rfl, -, hRx, -, hcx, hcm⟩ := hx.form
    have HY := Lib.hid hRx
    have HV14 := Lib.hid (HV1.out.keep hb4)
    have HB4 := Lib.hid (HB3.out.trans (hb4.mono HB3.out.size))
    clear hx hRx hb4 hcx hcm hbx
    go_wp2_with fail
    refine (short_ok Ay n cy J w4 HY.out HOk.out).mono ?_
    rintro e w5 ⟨v, rfl, hv, hb5⟩
    obtain ⟨A2, cs2, rfl, -, hR2, -⟩ := hv.form
    have HV2 := Lib.hid hR2
    have HV15 := Lib.hid (HV14.out.keep hb5)
    have HB5 := Lib.hid (HB4.out.trans (hb5.mono HB4.out.size))
    have hbx := HX.out w5 HB5.out
    clear hv hR2 hb5
    go_wp2_with fail
    refine (of_any A n c J w5 (HRW.out w5 HB5.out) Hn.out).mono ?_
    rintro e w6 ⟨x, rfl, hx, hb6⟩
    rw [HMn.out] at hx
    obtain ⟨Az, cz, rfl, -, hRx, -, hcx, hcm⟩ := hx.form
    have HZ := Lib.hid hRx
    have HV16 := Lib.hid (HV15.out.keep hb6)
    have HV26 := Lib.hid (HV2.out.keep hb6)
    have HB6 := Lib.hid (HB5.out.trans (hb6.mono HB5.out.size))
    clear hx hRx hb6 hcx hcm hbx
    go_wp2_with fail
    refine (delay_ok Az n cz J w6 HZ.out HOk.out).mono ?_
    rintro e w7 ⟨d, rfl, hd, hb7⟩
    have HD := Lib.hid hd
    have HV17 := Lib.hid (HV16.out.keep hb7)
    have HV27 := Lib.hid (HV26.out.keep hb7)
    have HB7 := Lib.hid (HB6.out.trans (hb7.mono HB6.out.size))
    have hbx := HX.out w7 HB7.out
    clear hd hb7
    go_wp2_with fail
    refine (refValid_any A n c J w7 (HRW.out w7 HB7.out) Hn.out).use fun w8 hb8 => ?_
    have HV18 := Lib.hid (HV17.out.keep hb8)
    have HV28 := Lib.hid (HV27.out.keep hb8)
    have HB8 := Lib.hid (HB7.out.trans (hb8.mono HB7.out.size))
    clear hb8 hbx
    have hbx := HX.out w8 HB8.out
    rw [HOk.out]
    go_wp2_with fail
    refine (of_any A n c J w8 (HRW.out w8 HB8.out) Hn.out).mono ?_
    rintro e w9 ⟨x, rfl, hx, hb9⟩
    rw [HMn.out] at hx
    obtain ⟨Aj, cj, rfl, -, hRx, -, hcx, hcm⟩ := hx.form
    have HJ9 := Lib.hid hRx
    have HV19 := Lib.hid (HV18.out.keep hb9)
    have HV29 := Lib.hid (HV28.out.keep hb9)
    have HB9 := Lib.hid (HB8.out.trans (hb9.mono HB8.out.size))
    clear hx hRx hb9 hcx hcm hbx
    go_wp2_with fail
    refine (check_ok A1 Aj (plS 0 n J).m c1 n cj (plS 0 n J).p J w9 HV19.out HJ9.out HOk.out Hmx0.out).mono ?_
    rintro e wA ⟨hr, hbA⟩
    rcases hr with ⟨hw, -⟩ | ⟨-, g1, rfl, hRo⟩
    · exfalso
      have := HW0.out
      rw [hw] at this
      cases this
    have HG1 := Lib.hid hRo
    have HV2A := Lib.hid (HV29.out.keep hbA)
    have HBA := Lib.hid (HB9.out.trans (hbA.mono HB9.out.size))
    have hbx := HX.out wA HBA.out
    clear hRo hbA
    go_wp2_with fail
    refine (of_any A n c J wA (HRW.out wA HBA.out) Hn.out).mono ?_
    rintro e wB ⟨x, rfl, hx, hbB⟩
    rw [HMn.out] at hx
    obtain ⟨Ak, ck, rfl, -, hRx, -, hcx, hcm⟩ := hx.form
    have HJB := Lib.hid hRx
    have HG1B := Lib.hid (HG1.out.keep hbB)
    have HV2B := Lib.hid (HV2A.out.keep hbB)
    have HBB := Lib.hid (HBA.out.trans (hbB.mono HBA.out.size))
    clear hx hRx hbB hcx hcm hbx
    go_wp2_with fail
    refine (check_ok A2 Ak (plS 1 n J).m cs2 n ck (plS 1 n J).p J wB HV2B.out HJB.out HOk.out Hmx1.out).mono ?_
    rintro e wC ⟨hr, hbC⟩
    rcases hr with ⟨hw, -⟩ | ⟨-, g2, rfl, hRo⟩
    · exfalso
      have := HW1p.out
      rw [hw] at this
      cases this
    have HG2 := Lib.hid hRo
    have HG1C := Lib.hid (HG1B.out.keep hbC)
    have HBC := Lib.hid (HBB.out.trans (hbC.mono HBB.out.size))
    have hbx := HX.out wC HBC.out
    have hnn := bne_f (a := (n : Int)) rfl
    clear hRo hbC
    go_wp2_with fail
    refine (worst_any A n c g1 W.heap.size J (enF (plS 0 n J).p (plS 0 n J).m) wC (HRW.out wC HBC.out) HOk.out hbx HG1C.out HR0.out).mono ?_
    rintro e wD ⟨u, rfl, hu, hdD⟩
    obtain rfl := HD.out.uniq hu
    have HG2D := Lib.hid (HG2.out.dn hdD)
    have HBD := Lib.hid (HBC.out.trans (hdD.below _))
    clear hu hdD hbx
    have hbx := HX.out wD HBD.out
    go_wp2_with fail
    refine (worst_any A n c g2 W.heap.size J (enF (plS 1 n J).p (plS 1 n J).m) wD (HRW.out wD HBD.out) HOk.out hbx HG2D.out HR1.out).mono ?_
    rintro e wE ⟨u2, rfl, hu2, hdE⟩
    have HBE := Lib.hid (HBD.out.trans (hdE.below _))
    clear hu2 hdE hbx
    have hbx := HX.out wE HBE.out
    have hdd := bne_f (a := d) rfl
    generalize smT (enF (plS 1 n J).p (plS 1 n J).m) n = su at *
    have hss := bne_f (a := su) rfl
    go_wp2_with fail
    refine (of_any A n c J wE (HRW.out wE HBE.out) Hn.out).mono ?_
    rintro e wF ⟨x, rfl, hx, hbF⟩
    rw [HMn.out] at hx
    obtain ⟨Al, cl, rfl, -, hRx, -, hcx, hcm⟩ := hx.form
    have HJF := Lib.hid hRx
    have HBF := Lib.hid (HBE.out.trans (hbF.mono HBE.out.size))
    clear hx hRx hbF hcx hcm hbx
    go_wp2_with fail
    refine (pieces_any B m c2 p wF (HPW.out wF HBF.out) Hm.out).mono ?_
    rintro e wG ⟨y, rfl, hy, hbG⟩
    obtain ⟨Bp, cp, rfl, -, hRy, -, hcy, hcm⟩ := hy.form
    have HPG := Lib.hid hRy
    have HJG := Lib.hid (HJF.out.keep hbG)
    have HBG := Lib.hid (HBF.out.trans (hbG.mono HBF.out.size))
    clear hy hRy hbG hcy hcm
    generalize min m 200 = mm at *
    go_wp2_with fail
    refine (check_ok Bp Al mm cp n cl p J wG HPG.out HJG.out HOk.out Hm11.out).mono ?_
    rintro e wH ⟨hr, hbH⟩
    have HBH := Lib.hid (HBG.out.trans (hbH.mono HBG.out.size))
    clear hbH
    rcases hr with ⟨-, rfl⟩ | ⟨hw, g3, rfl, hRo⟩
    · go_wp2_with fail
      refine (awake_any wH).use fun wI hbI => ?_
      have HBI := Lib.hid (HBH.out.trans (hbI.mono HBH.out.size))
      clear hbI
      go_wp2
      go_ret
      exact ⟨rfl, HBW.out _ HBI.out⟩
    · have HG3 := Lib.hid hRo
      have HLs := Lib.hid (HShort.out mm hw)
      have HLp := Lib.hid (HPlan.out mm d hw HD.out)
      have HRg := Lib.hid (fun k (hk : k < n) => And.intro (whole_end hw hk).1 (whole_top hw k))
      have hbx := HX.out wH HBH.out
      clear hw hRo
      go_wp2_with fail
      refine (worst_any A n c g3 W.heap.size J (enF p mm) wH (HRW.out wH HBH.out) HOk.out hbx HG3.out HRg.out).mono ?_
      rintro e wI ⟨u3, rfl, hu3, hdI⟩
      have HBI := Lib.hid (HBH.out.trans (hdI.below _))
      have hge1 : decide (d ≤ u3) = true := decide_eq_true (by
        obtain ⟨j, hj, h1⟩ := HLp.out
        have h2 := hu3.1 j hj
        omega)
      have hge2 : decide (su ≤ smT (enF p mm) n) = true := decide_eq_true HLs.out
      clear hu3 hdI hbx
      have hbx := HX.out wI HBI.out
      generalize smT (enF p mm) n = sq at *
      have hnq := beq_t (a := (n : Int)) rfl
      go_wp2_with fail
      refine (awake_any wI).use fun wJ hbJ => ?_
      have HBJ := Lib.hid (HBI.out.trans (hbJ.mono HBI.out.size))
      clear hbJ
      go_wp2
      go_ret
      exact ⟨rfl, HBW.out _ HBJ.out⟩
end Go.Proofs.Ytbgekacfimgkeaa
