import Derived.Test.YthbahfmcmbjglaaQw
import Derived.Test.YthbahfmcmbjglaaQx
namespace Go.Proofs.Ythbahfmcmbjglaa
open Go.RowKit

def lateB (J : Nat → Nat → Int) (E : Nat → Int) (j : Nat) : Bool := decide (J j 2 < E j)

set_option maxHeartbeats 4000000 in
set_option maxRecDepth 1000000 in
theorem datesEither_walk (A : Option Addr) (n c : Nat) (J : Nat → Nat → Int) (B : Option Addr) (m c2 : Nat) (p : Nat → Nat → Int) (W : World) (h : ArgK 4 W A n c J) (hf : ArgK 3 W B m c2 p) : TrueBelow 12 #[.slice A n c, .slice B m c2] W := by
  have hnm : n ≤ maxLen := Nat.le_trans h.1 h.2.1
  have hmm : m ≤ maxLen := Nat.le_trans hf.1 hf.2.1
  have H := Lib.hid h.2.2.2
  have HF := Lib.hid hf.2.2.2
  have Hn := Lib.hid hnm
  have Hm := Lib.hid hmm
  clear h hf hnm hmm
  show Calls _ _ _ _ _
  go_enter Try.func12, Try.ntmps12
  go_wp2_with fail
  refine (of_any A n c J W H.out Hn.out).mono ?_
  rintro e w1 ⟨x, rfl, hx, hb1⟩
  obtain ⟨Ax, cx, rfl, -, hRx, -, hcx, hcm⟩ := hx.form
  have HX := Lib.hid hRx
  have HB1 := Lib.hid hb1
  have Hm10 := Lib.hid (show min n 10 ≤ maxLen by have := Hn.out; omega)
  have Hm11 := Lib.hid (show min m 200 ≤ maxLen by have := Hm.out; omega)
  have HMin := Lib.hid (okJ_min n J)
  clear hx hRx hb1 hcx hcm
  cases hok : okJ n J with
  | false =>
    have HOk := Lib.hid hok
    have HBad := Lib.hid (show okJ (min n 10) J = false by rw [HMin.out, HOk.out])
    clear hok
    go_wp2_with fail
    refine (overload_bad Ax (min n 10) cx J w1 HX.out Hm10.out HBad.out).use fun w2 hb2 => ?_
    have hb2a := HB1.out.trans (hb2.mono HB1.out.size)
    have hb2b := hb2a.alloc hb2a.size (.cells #[.int .i64 0, .int .i64 0] 39)
    clear hb2 hb2a
    go_wp2_with fail
    generalize w2.alloc (.cells #[.int .i64 0, .int .i64 0] 39) = W2 at *
    have HB2 := Lib.hid hb2b
    clear hb2b
    refine (of_any A n c J W2 (H.out.keep HB2.out) Hn.out).mono ?_
    rintro e w3 ⟨x, rfl, hx, hb3⟩
    obtain ⟨Ay, cy, rfl, -, hRx, -, hcx, hcm⟩ := hx.form
    have HY := Lib.hid hRx
    have HB3 := Lib.hid (HB2.out.trans (hb3.mono HB2.out.size))
    clear hx hRx hb3 hcx hcm
    go_wp2_with fail
    refine (delay_bad Ay (min n 10) cy J w3 HY.out Hm10.out HBad.out).use fun w4 hb4 => ?_
    have HB4 := Lib.hid (HB3.out.trans (hb4.mono HB3.out.size))
    clear hb4
    go_wp2_with fail
    refine (of_any A n c J w4 (H.out.keep HB4.out) Hn.out).mono ?_
    rintro e w5 ⟨x, rfl, hx, hb5⟩
    obtain ⟨Az, cz, rfl, -, hRx, -, hcx, hcm⟩ := hx.form
    have HZ := Lib.hid hRx
    have HB5 := Lib.hid (HB4.out.trans (hb5.mono HB4.out.size))
    clear hx hRx hb5 hcx hcm
    go_wp2_with fail
    refine (pieces_any B m c2 p w5 (HF.out.keep HB5.out) Hm.out).mono ?_
    rintro e w6 ⟨y, rfl, hy, hb6⟩
    obtain ⟨By, cy, rfl, -, hRy, -, hcy, hcm⟩ := hy.form
    have HZ6 := Lib.hid (HZ.out.keep hb6)
    have HB6 := Lib.hid (HB5.out.trans (hb6.mono HB5.out.size))
    clear hy hRy hb6 hcy hcm
    go_wp2_with fail
    refine (check_bad By Az (min m 200) cy (min n 10) cz p J w6 HZ6.out Hm10.out HBad.out).use fun w7 hb7 => ?_
    have HB7 := Lib.hid (HB6.out.trans (hb7.mono HB6.out.size))
    clear hb7
    go_wp2_with fail
    refine (awake_any w7).use fun w8 hb8 => ?_
    have HB8 := Lib.hid (HB7.out.trans (hb8.mono HB7.out.size))
    clear hb8
    go_wp2
    go_ret
    exact ⟨rfl, HB8.out⟩
  | true =>
    have HOk := Lib.hid hok
    have hn8 := (okJ_iff.1 hok).1
    have hmn : min n 10 = n := by omega
    rw [hmn] at HX ⊢
    have HMn := Lib.hid hmn
    have hn8' := hn8.2
    clear hok hmn Hm10 hn8
    go_wp2_with fail
    refine (overload_okP Ax n cx J w1 HX.out HOk.out).mono ?_
    rintro e w2 ⟨ox, oy, of_, rfl, ho, hb2⟩
    have hb2a := HB1.out.trans (hb2.mono HB1.out.size)
    have hb2b := hb2a.alloc hb2a.size (.cells #[.int .i64 ox, .int .i64 oy] 39)
    have hbx := B2.made w2 ox oy
    have HOv := Lib.hid ho
    clear ho hb2 hb2a
    go_wp2_with fail
    generalize w2.alloc (.cells #[.int .i64 ox, .int .i64 oy] 39) = W2 at *
    have HB2 := Lib.hid hb2b
    have HX2 := Lib.hid hbx
    clear hb2b hbx
    refine (of_any A n c J W2 (H.out.keep HB2.out) Hn.out).mono ?_
    rintro e w3 ⟨x, rfl, hx, hb3⟩
    rw [HMn.out] at hx
    obtain ⟨Ay, cy, rfl, -, hRx, -, hcx, hcm⟩ := hx.form
    have HY := Lib.hid hRx
    have HB3 := Lib.hid (HB2.out.trans (hb3.mono HB2.out.size))
    have HX3 := Lib.hid (HX2.out.keep hb3)
    clear hx hRx hb3 hcx hcm
    go_wp2_with fail
    refine (delay_ok Ay n cy J w3 HY.out HOk.out).mono ?_
    rintro e w4 ⟨d, rfl, hd, hb4⟩
    have HB4 := Lib.hid (HB3.out.trans (hb4.mono HB3.out.size))
    have HX4 := Lib.hid (HX3.out.keep hb4)
    have HD := Lib.hid hd
    clear hd hb4
    go_wp2_with fail
    refine (of_any A n c J w4 (H.out.keep HB4.out) Hn.out).mono ?_
    rintro e w5 ⟨x, rfl, hx, hb5⟩
    rw [HMn.out] at hx
    obtain ⟨Az, cz, rfl, -, hRx, -, hcx, hcm⟩ := hx.form
    have HZ := Lib.hid hRx
    have HB5 := Lib.hid (HB4.out.trans (hb5.mono HB4.out.size))
    have HX5 := Lib.hid (HX4.out.keep hb5)
    clear hx hRx hb5 hcx hcm
    go_wp2_with fail
    refine (pieces_any B m c2 p w5 (HF.out.keep HB5.out) Hm.out).mono ?_
    rintro e w6 ⟨y, rfl, hy, hb6⟩
    obtain ⟨By, cy, rfl, -, hRy, -, hcy, hcm⟩ := hy.form
    have HPy := Lib.hid hRy
    have HZ6 := Lib.hid (HZ.out.keep hb6)
    have HB6 := Lib.hid (HB5.out.trans (hb6.mono HB5.out.size))
    have HX6 := Lib.hid (HX5.out.keep hb6)
    clear hy hRy hb6 hcy hcm
    generalize min m 200 = mm at *
    go_wp2_with fail
    refine (check_ok By Az mm cy n cz p J w6 HPy.out HZ6.out HOk.out Hm11.out).mono ?_
    rintro e w7 ⟨hr, hb7⟩
    have HB7 := Lib.hid (HB6.out.trans (hb7.mono HB6.out.size))
    have HX7 := Lib.hid (HX6.out.keep hb7)
    clear hb7
    have hcase : (of_ = 4 ∧ d ≤ 0) ∨ (of_ = 0 ∧ 0 < d ∧ ∃ a b : Nat, ox = a ∧ oy = b ∧ a ≤ b ∧ b ≤ 200 ∧ OvB n J (a : Int) (b : Int)) := by
      rcases HOv.out with ⟨-, -, h4, hno⟩ | ⟨a, b, h1, h2, h3, hi⟩
      · left
        refine ⟨h4, ?_⟩
        obtain ⟨hd1, j, hj, hd2⟩ := HD.out
        rcases Int.lt_or_le 0 d with h5 | h5
        · exfalso
          obtain ⟨a, b, hab, hov⟩ := over_of_late HOk.out hj (by
            show _ < enF _ _ j
            omega)
          exact noOv_all HOk.out hno hab hov
        · exact h5
      · right
        refine ⟨h3, ?_, a, b, h1, h2, hi.1, hi.2.1, hi.2.2.1⟩
        rcases Int.lt_or_le 0 d with h5 | h5
        · exact h5
        · exfalso
          have h6 := no_over HOk.out (fun k hk => by
            have := HD.out.1 k hk
            show enF _ _ k ≤ _
            omega) (a : Int) (b : Int) (by have := hi.1; omega)
          have h7 : (b : Int) - a < ldF J a b n := hi.2.2.1
          omega
    have HNoW := Lib.hid (fun (hw : whB mm n J p = true) (hl : ∀ j, j < n → enF p mm j ≤ J j 2) (a b : Nat) (hab : a ≤ b) => no_over_whole hw hl (a := (a : Int)) (b := (b : Int)) (by omega))
    rcases hcase with ⟨rfl, hd0⟩ | ⟨rfl, hd0, a, b, rfl, rfl, hab, hb200, hov⟩
    · have hd1 : decide (0 < d) = false := decide_eq_false (by omega)
      rcases hr with ⟨hw, rfl⟩ | ⟨hw, g, rfl, hR⟩
      · clear hw
        go_wp2_with fail
        refine (awake_any w7).use fun w8 hb8 => ?_
        have HB8 := Lib.hid (HB7.out.trans (hb8.mono HB7.out.size))
        clear hb8
        go_wp2
        go_ret
        exact ⟨rfl, HB8.out⟩
      · have HR := Lib.hid hR
        clear hw hR
        go_wp2_with fail
        have HR0 := Lib.hid HR.out
        have HLf : Hid (∀ j, lateB J (enF p mm) j = decide (J j 2 < enF p mm j)) := Lib.hid (fun _ => rfl)
        generalize enF p mm = E at *
        go_loopw [15, 120] (fun l i wr => ∃ k : Nat, k ≤ n ∧ i = .int .i64 k ∧ l = .bool (anyB (lateB J E) k) ∧ Dn w7 wr) (fun _ i _ => n - (intOf i).toNat)
        case atStart => exact ⟨0, Nat.zero_le _, rfl, rfl, Dn.refl _⟩
        case round =>
          obtain ⟨k, hk, rfl, rfl, hDn⟩ := hrel
          have HDn := Lib.hid hDn
          have HA1 : Hid (anyB (lateB J E) (k + 1) = (anyB (lateB J E) k || lateB J E k)) := Lib.hid rfl
          have HAk : Hid (k = n → anyB (lateB J E) k = anyB (lateB J E) n) := Lib.hid (fun h => by rw [h])
          generalize hak : anyB (lateB J E) k = ak at *
          by_cases hlt : k < n
          · have hck := (HR0.out.dn hDn).cell hlt
            obtain ⟨bj, oj, rfl, g0, g1, g2, g3⟩ := (H.out.keep (HB7.out.trans (hDn.below _))).four hlt
            have HLk := Lib.hid (HLf.out k)
            clear hDn hak
            cases ak with
            | true =>
              go_wp2
              go_roundw
              case rel => exact ⟨k + 1, by omega, by go_num, by rw [HA1.out, Bool.true_or], HDn.out⟩
              case measure => simp [intOf]; omega
            | false =>
              generalize E k = ek at *
              by_cases hlk : J k 2 < ek
              · have hdk : decide (J k 2 < ek) = true := decide_eq_true hlk
                have HLt := Lib.hid (show lateB J E k = true by rw [HLk.out, hdk])
                clear hlk
                go_wp2
                go_roundw
                case rel => exact ⟨k + 1, by omega, by go_num, by rw [HA1.out, HLt.out]; rfl, HDn.out⟩
                case measure => simp [intOf]; omega
              · have hdk : decide (J k 2 < ek) = false := decide_eq_false hlk
                have HLt := Lib.hid (show lateB J E k = false by rw [HLk.out, hdk])
                clear hlk
                go_wp2
                go_roundw
                case rel => exact ⟨k + 1, by omega, by go_num, by rw [HA1.out, HLt.out]; rfl, HDn.out⟩
                case measure => simp [intOf]; omega
          · have hkn : k = n := by omega
            have HAn := Lib.hid (HAk.out hkn)
            clear hDn hak hkn
            cases ak with
            | true =>
              go_wp2_with fail
              refine (awake_any wr).use fun wD hbD => ?_
              have HBD := Lib.hid ((HB7.out.trans (HDn.out.below _)).trans (hbD.mono (HB7.out.trans (HDn.out.below _)).size))
              clear hbD
              go_wp2
              go_ret
              exact ⟨rfl, HBD.out⟩
            | false =>
              go_wp2_with fail
              refine (awake_any wr).use fun wD hbD => ?_
              have HBD := Lib.hid ((HB7.out.trans (HDn.out.below _)).trans (hbD.mono (HB7.out.trans (HDn.out.below _)).size))
              clear hbD
              go_wp2
              go_ret
              exact ⟨rfl, HBD.out⟩
    · have hd1 : decide (0 < d) = true := decide_eq_true hd0
      rcases hr with ⟨hw, rfl⟩ | ⟨hw, g, rfl, hR⟩
      · clear hw
        go_wp2_with fail
        have HSr := Lib.hid (ldF_rng HOk.out (a : Int) (b : Int))
        have HOvI : Hid ((b : Int) - a < ldF J a b n) := Lib.hid hov
        go_loopw [12, 75] (fun s i wr => ∃ k : Nat, k ≤ n ∧ i = .int .i64 k ∧ s = .int .i64 (ldF J a b k) ∧ Below w7.heap.size w7 wr) (fun _ i _ => n - (intOf i).toNat)
        case atStart => exact ⟨0, Nat.zero_le _, rfl, rfl, Below.refl _ _⟩
        case round =>
          obtain ⟨k, hk, rfl, rfl, hDs⟩ := hrel
          have HDs := Lib.hid hDs
          have HB8 := Lib.hid (HB7.out.trans (hDs.mono HB7.out.size))
          have hr1 := HSr.out k hk
          by_cases hlt : k < n
          · obtain ⟨bj, oj, rfl, c0, c1, c2, c3⟩ := (H.out.keep HB8.out).four hlt
            have hWb := (Below.refl wr.heap.size wr).alloc (Nat.le_refl _) (.cells #[.int .i64 (J k 0), .int .i64 (J k 1), .int .i64 (J k 2), .int .i64 (J k 3)] 64)
            have hX8 := (HX7.out.keep hDs).keep hWb
            have z0 := hX8.cell0
            have z1 := hX8.cell1
            have HDa := Lib.hid (hDs.trans (hWb.mono hDs.size))
            have HS := Lib.hid (ldF_succ J (a : Int) (b : Int) k)
            have hJ := (okJ_iff.1 HOk.out).2 k hlt
            obtain ⟨⟨hJ1, hJ2⟩, -⟩ := hJ
            obtain ⟨hr2, hr3⟩ := hr1
            have hk8 : (k : Int) < 8 := by omega
            clear hDs hWb hX8
            generalize ldF J (a : Int) (b : Int) k = sm at *
            by_cases h1 : (a : Int) ≤ J k 1
            · have e1 : decide ((a : Int) ≤ J k 1) = true := decide_eq_true h1
              by_cases h2 : J k 2 ≤ (b : Int)
              · have HE : Hid (ldF J a b (k + 1) = sm + J k 0) := Lib.hid (by rw [HS.out, if_pos ⟨h1, h2⟩])
                have e2 : decide (J k 2 ≤ (b : Int)) = true := decide_eq_true h2
                go_wp2
                go_roundw
                case rel => exact ⟨k + 1, by omega, by go_num, by rw [HE.out], HDa.out⟩
                case measure => simp [intOf]; omega
              · have HE : Hid (ldF J a b (k + 1) = sm) := Lib.hid (by rw [HS.out, if_neg (fun h => h2 h.2), Int.add_zero])
                have e2 : decide (J k 2 ≤ (b : Int)) = false := decide_eq_false h2
                go_wp2
                go_roundw
                case rel => exact ⟨k + 1, by omega, by go_num, by rw [HE.out], HDa.out⟩
                case measure => simp [intOf]; omega
            · have HE : Hid (ldF J a b (k + 1) = sm) := Lib.hid (by rw [HS.out, if_neg (fun h => h1 h.1), Int.add_zero])
              have e1 : decide ((a : Int) ≤ J k 1) = false := decide_eq_false h1
              go_wp2
              go_roundw
              case rel => exact ⟨k + 1, by omega, by go_num, by rw [HE.out], HDa.out⟩
              case measure => simp [intOf]; omega
          · have hkn : n = k := by omega
            subst hkn
            have z0 := (HX7.out.keep hDs).cell0
            have z1 := (HX7.out.keep hDs).cell1
            have e1 : decide ((b : Int) < (a : Int)) = false := decide_eq_false (by omega)
            have e2 : decide (ldF J (a : Int) (b : Int) n ≤ (b : Int) - (a : Int)) = false := decide_eq_false (by have := HOvI.out; omega)
            have hb2 : (b : Int) ≤ 200 := by omega
            obtain ⟨WS, rfl⟩ : ∃ WS, WS = wr := ⟨wr, rfl⟩
            generalize ldF J (a : Int) (b : Int) n = sm at *
            go_wp2_with fail
            refine (awake_any WS).use fun w9 hb9 => ?_
            have HB9 := Lib.hid (HB8.out.trans (hb9.mono HB8.out.size))
            clear hb9
            go_wp2
            go_ret
            exact ⟨rfl, HB9.out⟩
      · have HR7 := Lib.hid hR
        clear hR
        go_wp2_with fail
        have HSr := Lib.hid (ldF_rng HOk.out (a : Int) (b : Int))
        have HOvI : Hid ((b : Int) - a < ldF J a b n) := Lib.hid hov
        go_loopw [12, 75] (fun s i wr => ∃ k : Nat, k ≤ n ∧ i = .int .i64 k ∧ s = .int .i64 (ldF J a b k) ∧ Below w7.heap.size w7 wr) (fun _ i _ => n - (intOf i).toNat)
        case atStart => exact ⟨0, Nat.zero_le _, rfl, rfl, Below.refl _ _⟩
        case round =>
          obtain ⟨k, hk, rfl, rfl, hDs⟩ := hrel
          have HDs := Lib.hid hDs
          have HB8 := Lib.hid (HB7.out.trans (hDs.mono HB7.out.size))
          have hr1 := HSr.out k hk
          by_cases hlt : k < n
          · obtain ⟨bj, oj, rfl, c0, c1, c2, c3⟩ := (H.out.keep HB8.out).four hlt
            have hWb := (Below.refl wr.heap.size wr).alloc (Nat.le_refl _) (.cells #[.int .i64 (J k 0), .int .i64 (J k 1), .int .i64 (J k 2), .int .i64 (J k 3)] 64)
            have hX8 := (HX7.out.keep hDs).keep hWb
            have z0 := hX8.cell0
            have z1 := hX8.cell1
            have HDa := Lib.hid (hDs.trans (hWb.mono hDs.size))
            have HS := Lib.hid (ldF_succ J (a : Int) (b : Int) k)
            have hJ := (okJ_iff.1 HOk.out).2 k hlt
            obtain ⟨⟨hJ1, hJ2⟩, -⟩ := hJ
            obtain ⟨hr2, hr3⟩ := hr1
            have hk8 : (k : Int) < 8 := by omega
            clear hDs hWb hX8
            generalize ldF J (a : Int) (b : Int) k = sm at *
            by_cases h1 : (a : Int) ≤ J k 1
            · have e1 : decide ((a : Int) ≤ J k 1) = true := decide_eq_true h1
              by_cases h2 : J k 2 ≤ (b : Int)
              · have HE : Hid (ldF J a b (k + 1) = sm + J k 0) := Lib.hid (by rw [HS.out, if_pos ⟨h1, h2⟩])
                have e2 : decide (J k 2 ≤ (b : Int)) = true := decide_eq_true h2
                go_wp2
                go_roundw
                case rel => exact ⟨k + 1, by omega, by go_num, by rw [HE.out], HDa.out⟩
                case measure => simp [intOf]; omega
              · have HE : Hid (ldF J a b (k + 1) = sm) := Lib.hid (by rw [HS.out, if_neg (fun h => h2 h.2), Int.add_zero])
                have e2 : decide (J k 2 ≤ (b : Int)) = false := decide_eq_false h2
                go_wp2
                go_roundw
                case rel => exact ⟨k + 1, by omega, by go_num, by rw [HE.out], HDa.out⟩
                case measure => simp [intOf]; omega
            · have HE : Hid (ldF J a b (k + 1) = sm) := Lib.hid (by rw [HS.out, if_neg (fun h => h1 h.1), Int.add_zero])
              have e1 : decide ((a : Int) ≤ J k 1) = false := decide_eq_false h1
              go_wp2
              go_roundw
              case rel => exact ⟨k + 1, by omega, by go_num, by rw [HE.out], HDa.out⟩
              case measure => simp [intOf]; omega
          · have hkn : n = k := by omega
            subst hkn
            have z0 := (HX7.out.keep hDs).cell0
            have z1 := (HX7.out.keep hDs).cell1
            have e1 : decide ((b : Int) < (a : Int)) = false := decide_eq_false (by omega)
            have e2 : decide (ldF J (a : Int) (b : Int) n ≤ (b : Int) - (a : Int)) = false := decide_eq_false (by have := HOvI.out; omega)
            have hb2 : (b : Int) ≤ 200 := by omega
            obtain ⟨WS, rfl⟩ : ∃ WS, WS = wr := ⟨wr, rfl⟩
            have HR := Lib.hid (HR7.out.keep hDs)
            clear hDs
            generalize hsm : ldF J (a : Int) (b : Int) n = sm at *
            have HSM := Lib.hid hsm
            clear hsm hov
            go_wp2_with fail
            have HR0 := Lib.hid HR.out
            have HLf : Hid (∀ j, lateB J (enF p mm) j = decide (J j 2 < enF p mm j)) := Lib.hid (fun _ => rfl)
            generalize enF p mm = E at *
            go_loopw [15, 120] (fun l i wr => ∃ k : Nat, k ≤ n ∧ i = .int .i64 k ∧ l = .bool (anyB (lateB J E) k) ∧ Dn WS wr) (fun _ i _ => n - (intOf i).toNat)
            case atStart => exact ⟨0, Nat.zero_le _, rfl, rfl, Dn.refl _⟩
            case round =>
              obtain ⟨k, hk, rfl, rfl, hDn⟩ := hrel
              have HDn := Lib.hid hDn
              have HA1 : Hid (anyB (lateB J E) (k + 1) = (anyB (lateB J E) k || lateB J E k)) := Lib.hid rfl
              have HAk : Hid (k = n → anyB (lateB J E) k = anyB (lateB J E) n) := Lib.hid (fun h => by rw [h])
              generalize hak : anyB (lateB J E) k = ak at *
              by_cases hlt : k < n
              · have hck := (HR0.out.dn hDn).cell hlt
                obtain ⟨bj, oj, rfl, g0, g1, g2, g3⟩ := (H.out.keep (HB8.out.trans (hDn.below _))).four hlt
                have HLk := Lib.hid (HLf.out k)
                clear hDn hak
                cases ak with
                | true =>
                  go_wp2
                  go_roundw
                  case rel => exact ⟨k + 1, by omega, by go_num, by rw [HA1.out, Bool.true_or], HDn.out⟩
                  case measure => simp [intOf]; omega
                | false =>
                  generalize E k = ek at *
                  by_cases hlk : J k 2 < ek
                  · have hdk : decide (J k 2 < ek) = true := decide_eq_true hlk
                    have HLt := Lib.hid (show lateB J E k = true by rw [HLk.out, hdk])
                    clear hlk
                    go_wp2
                    go_roundw
                    case rel => exact ⟨k + 1, by omega, by go_num, by rw [HA1.out, HLt.out]; rfl, HDn.out⟩
                    case measure => simp [intOf]; omega
                  · have hdk : decide (J k 2 < ek) = false := decide_eq_false hlk
                    have HLt := Lib.hid (show lateB J E k = false by rw [HLk.out, hdk])
                    clear hlk
                    go_wp2
                    go_roundw
                    case rel => exact ⟨k + 1, by omega, by go_num, by rw [HA1.out, HLt.out]; rfl, HDn.out⟩
                    case measure => simp [intOf]; omega
              · have hkn : k = n := by omega
                have HAn := Lib.hid (HAk.out hkn)
                clear hDn hak hkn
                cases ak with
                | true =>
                  go_wp2_with fail
                  refine (awake_any wr).use fun wD hbD => ?_
                  have HBD := Lib.hid ((HB8.out.trans (HDn.out.below _)).trans (hbD.mono (HB8.out.trans (HDn.out.below _)).size))
                  clear hbD
                  go_wp2
                  go_ret
                  exact ⟨rfl, HBD.out⟩
                | false =>
                  exfalso
                  have h1 : ∀ j, j < n → E j ≤ J j 2 := fun j hj => by
                    rcases Int.lt_or_le (J j 2) (E j) with h2 | h2
                    · exfalso
                      have h3 : anyB (lateB J E) n = true := anyB_t hj (by rw [HLf.out]; exact decide_eq_true h2)
                      rw [← HAn.out] at h3
                      cases h3
                    · exact h2
                  have h4 := HNoW.out hw h1 a b hab
                  have h5 := HOvI.out
                  have h6 := HSM.out
                  omega
end Go.Proofs.Ythbahfmcmbjglaa
