/- SwapRounds, walked. -/
import Derived.Test.YtocfbafcplhmiaaUi
import Derived.Lib.QuietBelow
namespace Go.Proofs.Ytocfbafcplhmiaa
open Go.RowKit

set_option maxHeartbeats 4000000 in
set_option maxRecDepth 1000000 in
theorem swapRounds_walk (A : Option Addr) (n c : Nat) (L : Nat → Nat) (v : Nat → Nat → Int) (w : World) (h : ArgR w A n c L v) :
    Calls Try.prog 7 #[.slice A n c] w fun e w' => e = .returned (.bool true) ∧ Below w.heap.size w w' := by
  have H := Lib.hid h
  clear h
  go_enter Try.func7, Try.ntmps7
  go_wp2_with fail
  refine (few7_any A n c L v w H.out).mono ?_
  rintro e w1 ⟨x, rfl, hx, hb1⟩
  obtain ⟨A1, c1, rfl, hr1, hc1⟩ := hx.own.rowsKs
  have HB1 := Lib.hid hb1
  have HR1 := Lib.hid hr1
  clear hx hb1 hr1
  cases hok : okS n L v with
  | false =>
    have HTb := Lib.hid (TradeFbad (cA := c1) HR1.out rfl hok)
    have HRb := Lib.hid (fun (w : World) (A1 : Option Addr) (c1 : Nat) (h : RowsK w A1 (min n 7) (fun i => min (L i) 7) v) => RoundsFbad (cA := c1) h rfl hok)
    clear hok
    go_wp2_with fail
    refine HTb.out.use fun w2 hb2 => ?_
    have HB2 := Lib.hid (HB1.out.trans (hb2.mono HB1.out.size))
    clear hb2
    go_wp2_with fail
    refine (few7_any A n c L v w2 (H.out.below HB2.out)).mono ?_
    rintro e w3 ⟨x, rfl, hx, hb3⟩
    obtain ⟨A3, c3, rfl, hr3, hc3⟩ := hx.own.rowsKs
    have HB3 := Lib.hid (HB2.out.trans (hb3.mono HB2.out.size))
    have HRc := Lib.hid (HRb.out w3 A3 c3 hr3)
    clear hx hb3 hr3
    go_wp2_with fail
    refine HRc.out.use fun w4 hb4 => ?_
    have HB4 := Lib.hid (HB3.out.trans (hb4.mono HB3.out.size))
    clear hb4
    go_wp2_with fail
    refine (awake_any _).use fun w5 hb5 => ?_
    have HB5 := Lib.hid (HB4.out.trans (hb5.mono HB4.out.size))
    clear hb5
    go_wp2
    go_ret
    exact ⟨rfl, HB5.out⟩
  | true =>
    have HOk := Lib.hid hok
    have HTk := Lib.hid (TradeF (cA := c1) HR1.out rfl hok)
    have HRk := Lib.hid (fun (w : World) (A1 : Option Addr) (c1 : Nat) (h : RowsK w A1 (min n 7) (fun i => min (L i) 7) v) => RoundsF (cA := c1) h rfl hok)
    obtain ⟨⟨hn1, hn5⟩, -, -, -⟩ := okS_pm hok
    have HLn := Lib.hid (okS_pm hok).2.1
    clear hok
    go_wp2_with fail
    refine HTk.out.mono ?_
    rintro e w2 ⟨B1, rfl, hB1, hT, hb2⟩
    have HB2 := Lib.hid (HB1.out.trans (hb2.mono HB1.out.size))
    have HT := Lib.hid hT
    clear hb2 hT HTk HR1
    go_wp2_with fail
    refine (few7_any A n c L v w2 (H.out.below HB2.out)).mono ?_
    rintro e w3 ⟨x, rfl, hx, hb3⟩
    obtain ⟨A3, c3, rfl, hr3, hc3⟩ := hx.own.rowsKs
    have HB3 := Lib.hid (HB2.out.trans (hb3.mono HB2.out.size))
    have HT3 := Lib.hid (HT.out.keep hb3)
    have HRc := Lib.hid (HRk.out w3 A3 c3 hr3)
    clear hx hb3 hr3 HT HRk
    go_wp2_with fail
    refine HRc.out.mono ?_
    rintro e w4 ⟨B2, rfl, hB2, hR, hb4⟩
    have HB4 := Lib.hid (HB3.out.trans (hb4.mono HB3.out.size))
    have HT4 := Lib.hid (HT3.out.keep hb4)
    have HR4 := Lib.hid hR
    clear hb4 hR HT3 HRc
    have hqn := bne_f (a := (n : Int)) rfl
    go_wp2_with fail
    go_loopw [7, 56] (fun mo i wr => ∃ m M : Nat, m ≤ n ∧ i = .int .i64 m ∧ mo = .int .i64 M ∧ (M = 0 ∨ ∃ p, p < n ∧ rnV v n p = M) ∧ Below w4.heap.size w4 wr) (fun _ i _ => n - (intOf i).toNat)
    case atStart => exact ⟨0, 0, Nat.zero_le _, rfl, rfl, .inl rfl, Below.refl _ _⟩
    case round =>
      obtain ⟨m, M, hm, rfl, rfl, hM, hD⟩ := hrel
      have HD := Lib.hid hD
      have HM := Lib.hid hM
      clear hD hM
      by_cases hlt : m < n
      · obtain ⟨b, o, A', c', rfl, hc, hA'⟩ := (H.out.below (HB4.out.trans (HD.out.mono HB4.out.size))).at hlt
        obtain ⟨K, hK, e1, e2, e3, e4⟩ := trV_at HOk.out hlt
        have hxl := trV_lt HOk.out hlt
        have hcT := (HT4.out.keep HD.out).cell hlt
        have HRr := Lib.hid (HR4.out.keep HD.out)
        have hcx := HRr.out.cell hxl
        rw [e3] at hcx
        have hcm := HRr.out.cell hlt
        have eL := HLn.out m hlt
        rw [eL] at hc hA'
        obtain ⟨b3, o3, rfl, -⟩ := hA'.2.2.2.at (show 0 < n by omega)
        have HI1 := Lib.hid (fun q : Later wr => Lr.same ((index_any (some ⟨b3, o3, none⟩) n c' (v m) ((trV v n m : Nat) : Int) q.to (hA'.2.2.2.keep q.below) (by omega)).mono (fun e w' hh => by rw [e2] at hh; exact hh)))
        have HIn := Lib.hid hA'.2.2.2
        have hnc' := hA'.1
        have HE4 := Lib.hid e4
        have HMx : Hid (∃ p, p < n ∧ rnV v n p = rnV v n m) := Lib.hid ⟨m, hlt, rfl⟩
        clear e1 e2 e3 e4 hA' eL
        have q0 : ∀ q : Later wr, q.to.cell? ⟨b, o + m, none⟩ = some (.slice (some ⟨b3, o3, none⟩) n c') := fun q => q.cell hc
        have q1 : ∀ q : Later wr, q.to.cell? ⟨B2, trV v n m, none⟩ = some (.int .i64 (rnV v n m)) := fun q => q.cell hcx
        have q2 : ∀ q : Later wr, q.to.cell? ⟨B2, m, none⟩ = some (.int .i64 (rnV v n m)) := fun q => q.cell hcm
        have HC0 := Lib.hid hc
        have HC1 := Lib.hid hcx
        have HC2 := Lib.hid hcm
        clear hcx hcm hc
        generalize trV v n m = x at *
        obtain ⟨a, ha⟩ : ∃ a, a = rnV v n m := ⟨_, rfl⟩
        rw [← ha] at q1 q2 HE4 HMx HC1 HC2
        have HE5 := Lib.hid ha.symm
        clear ha
        have hd1 : decide ((x : Int) < 0) = false := decide_eq_false (by omega)
        have hd2 : decide ((n : Int) ≤ x) = false := decide_eq_false (by omega)
        have hd3 := bne_f (a := (a : Int)) rfl
        have hd4 : decide ((a : Int) < 0) = false := decide_eq_false (by omega)
        go_wp2_with fail
        refine wp_region_later (by kernel_rfl) (by kernel_rfl) ?_
        repeat
          (with_reducible refine wpQuiet_step ?_
           intro K hK
           go_simp
           (refine hK _ ?_; clear hK K))
        with_reducible refine wpQuiet_nil ?_
        intro W2 hw'
        obtain ⟨p2, hw''⟩ := hw'
        have hp2 := p2.below
        rw [← hw''] at hp2
        clear hw'' p2
        have HQ0 := Lib.hid (cell_on HC0.out hp2)
        have HQ2 := Lib.hid (cell_on HC2.out hp2)
        have HI2 := Lib.hid (show ∀ q : Later W2, Lr 29 #[.slice (some ⟨b3, o3, none⟩) n c', .int .i64 x] q.to (.int .i64 K) from fun q => HI1.out ⟨q.to, hp2.trans (q.below.mono hp2.size)⟩)
        have HD2 := Lib.hid (HD.out.trans (hp2.mono HD.out.size))
        have HIn2 := Lib.hid (HIn.out.keep hp2)
        have HRo2 := Lib.hid (HRr.out.keep hp2)
        clear q0 q1 q2 HI1 hcT HIn hp2 HC0 HC1 HC2 HD HRr
        have hmax : ∃ M' : Nat, (M < a → M' = a) ∧ (a ≤ M → M' = M) ∧ (M' = 0 ∨ ∃ p, p < n ∧ rnV v n p = M') := by
          rcases Nat.lt_or_ge M a with hl | hl
          · exact ⟨a, fun _ => rfl, fun h => by omega, .inr HMx.out⟩
          · exact ⟨M, fun h => by omega, fun _ => rfl, HM.out⟩
        obtain ⟨M', hM1, hM2, hM3⟩ := hmax
        have HM' := Lib.hid hM3
        clear hM3
        have hmx0 : (if 0 < K then (K : Int) else 0) = (K : Int) := by split <;> omega
        have hmx1 : (0 : Int) ≤ (K : Int) := by omega
        have hmx2 : (K : Int) ≤ c' := by omega
        have q0 : ∀ q : Later W2, q.to.cell? ⟨b, o + m, none⟩ = some (.slice (some ⟨b3, o3, none⟩) n c') := fun q => q.cell HQ0.out
        have hcm := HQ2.out
        clear hd1 hd2 hd3 hd4 hqn
        rcases Nat.lt_or_ge M a with hl | hl
        all_goals
          have hli : (M : Int) < (a : Int) ∨ (a : Int) ≤ (M : Int) := by omega
          first | (have hme := hM1 hl; have hlj : (M : Int) < (a : Int) := by omega) | (have hme := hM2 hl; have hlj : (a : Int) ≤ (M : Int) := by omega)
          clear hM1 hM2 hli hl
          have HME := Lib.hid hme
          clear hme
          go_wp2_with fail
          refine wp_region_later (by kernel_rfl) (by kernel_rfl) ?_
          repeat
            (with_reducible refine wpQuiet_step ?_
             intro K hK
             go_simp
             first
               | (refine hK _ ?_; clear hK K)
               | (apply Exists.intro
                  refine ⟨fun _ => ?_, hK _ ?_⟩
                  (go_at_call 29; exact Lr.later (HI2.out _))
                  clear hK K))
          with_reducible refine wpQuiet_nil ?_
          intro W3 hw'
          obtain ⟨p2, hw''⟩ := hw'
          have hp3 := p2.below
          rw [← hw''] at hp3
          clear hw'' p2
          have HD3 := Lib.hid (HD2.out.trans (hp3.mono HD2.out.size))
          have HIn3 := Lib.hid (HIn2.out.keep hp3)
          have HRo3 := Lib.hid (HRo2.out.keep hp3)
          clear hp3 q0 hcm
          go_wp2_with fail
          go_loopw [106] (fun i wr => ∃ q : Nat, q ≤ K ∧ i = .int .i64 q ∧ Below W3.heap.size W3 wr) (fun i _ => K - (intOf i).toNat)
          case atStart => exact ⟨0, Nat.zero_le _, rfl, Below.refl _ _⟩
          case round =>
            obtain ⟨q, hq, rfl, hD⟩ := hrel
            have HD := Lib.hid hD
            clear hD
            by_cases hqK : q < K
            · obtain ⟨y1, y2, y3⟩ := HE4.out q hqK
              have hcy := (HIn3.out.keep HD.out).cell (show q < n by omega)
              rw [y2] at hcy
              have hcz := (HRo3.out.keep HD.out).cell y1
              have hca := (HRo3.out.keep HD.out).cell hlt
              rw [HE5.out] at hca
              have q1 : ∀ q' : Later wr, q'.to.cell? ⟨B2, tO v m q, none⟩ = some (.int .i64 (rnV v n (tO v m q))) := fun q' => q'.cell hcz
              have q2 : ∀ q' : Later wr, q'.to.cell? ⟨B2, m, none⟩ = some (.int .i64 a) := fun q' => q'.cell hca
              have hd1 : decide ((a : Int) ≤ (rnV v n (tO v m q) : Nat)) = false := decide_eq_false (by omega)
              have hd2 : decide (a ≤ rnV v n (tO v m q)) = false := decide_eq_false (by omega)
              have hd3 : ¬ a ≤ rnV v n (tO v m q) := by omega
              clear y2 y3 hcz hca
              generalize rnV v n (tO v m q) = yr at *
              generalize tO v m q = yy at *
              go_wp2_with fail
              refine wp_region_later (by kernel_rfl) (by kernel_rfl) ?_
              repeat
                (with_reducible refine wpQuiet_step ?_
                 intro K hK
                 go_simp
                 (refine hK _ ?_; clear hK K))
              with_reducible refine wpQuiet_nil ?_
              intro W4 hw'
              obtain ⟨p2, hw''⟩ := hw'
              have hp4 := p2.below
              rw [← hw''] at hp4
              clear hw'' p2
              have HD4 := Lib.hid (HD.out.trans (hp4.mono HD.out.size))
              clear q1 q2 hp4
              go_wp2
              exact ⟨⟨q + 1, by omega, by go_num, HD4.out⟩, by simp [intOf]; omega⟩
            · have HDe := Lib.hid (HD3.out.trans (HD.out.mono HD3.out.size))
              go_wp2
              go_roundw
              case rel => exact ⟨m + 1, M', by omega, by go_num, val_int (by have := HME.out; omega), HM'.out, HDe.out⟩
              case measure => simp [intOf]; omega
      · obtain rfl : m = n := by omega
        have hMb : M ≤ 5 := by
          rcases HM.out with h0 | ⟨p, hp, e⟩
          · omega
          · have := rnV_lt HOk.out hp
            omega
        go_wp2_with fail
        go_loopw [122] (fun i wr => ∃ q : Nat, q ≤ M ∧ i = .int .i64 q ∧ Below w4.heap.size w4 wr) (fun i _ => M - (intOf i).toNat)
        case atStart => exact ⟨0, Nat.zero_le _, rfl, HD.out⟩
        case round =>
          obtain ⟨q, hq, rfl, hD2⟩ := hrel
          have HD2 := Lib.hid hD2
          clear hD2
          by_cases hqM : q < M
          · have hhas : hasB (fun p => (rnV v m p : Int)) (q : Int) m = true := by
              rw [hasB_iff]
              rcases HM.out with h0 | ⟨p, hp, e⟩
              · omega
              · obtain ⟨j, hj, ej⟩ := rnV_ex HOk.out (q := q) hp (by omega)
                exact ⟨j, hj, by rw [ej]⟩
            have HC := Lib.hid (contains_any (some ⟨B2, 0, none⟩) m m (fun p => (rnV v m p : Int)) (q : Int) wr (HR4.out.keep HD2.out).ints (by omega))
            rw [hhas] at HC
            clear hhas
            go_wp2_with fail
            refine HC.out.mono ?_
            rintro e w5 ⟨rfl, rfl⟩
            go_wp2
            go_roundw
            case rel => exact ⟨q + 1, by omega, by go_num, HD2.out⟩
            case measure => simp [intOf]; omega
          · have HBe := Lib.hid (HB4.out.trans (HD2.out.mono HB4.out.size))
            go_wp2_with fail
            refine (awake_any _).use fun w5 hb5 => ?_
            have HB5 := Lib.hid (HBe.out.trans (hb5.mono HBe.out.size))
            clear hb5
            go_wp2
            go_ret
            exact ⟨rfl, HB5.out⟩
end Go.Proofs.Ytocfbafcplhmiaa
