/- SwapOwn, walked. -/
import Derived.Test.YtocfbafcplhmiaaUi
namespace Go.Proofs.Ytocfbafcplhmiaa
open Go.RowKit

set_option maxHeartbeats 4000000 in
set_option maxRecDepth 1000000 in
theorem swapOwn_walk (A : Option Addr) (n c : Nat) (L : Nat → Nat) (v : Nat → Nat → Int) (w : World) (h : ArgR w A n c L v) :
    Calls Try.prog 10 #[.slice A n c] w fun e w' => e = .returned (.bool true) ∧ Below w.heap.size w w' := by
  have H := Lib.hid h
  clear h
  go_enter Try.func10, Try.ntmps10
  go_wp2_with fail
  refine (few7_any A n c L v w H.out).mono ?_
  rintro e w1 ⟨x, rfl, hx, hb1⟩
  obtain ⟨A1, c1, rfl, hr1, hc1⟩ := hx.own.rowsKs
  have HB1 := Lib.hid hb1
  have HR1 := Lib.hid hr1
  clear hx hb1 hr1
  cases hok : okS n L v with
  | false =>
    have HTb := Lib.hid (TradeFbad (cA := c1) HR1.out rfl hok)
    clear hok
    go_wp2_with fail
    refine HTb.out.use fun w2 hb2 => ?_
    have HB2 := Lib.hid (HB1.out.trans (hb2.mono HB1.out.size))
    clear hb2
    go_wp2_with fail
    refine (awake_any _).use fun w3 hb3 => ?_
    have HB3 := Lib.hid (HB2.out.trans (hb3.mono HB2.out.size))
    clear hb3
    go_wp2
    go_ret
    exact ⟨rfl, HB3.out⟩
  | true =>
    have HOk := Lib.hid hok
    have HTk := Lib.hid (TradeF (cA := c1) HR1.out rfl hok)
    obtain ⟨⟨hn1, hn5⟩, -, -, -⟩ := okS_pm hok
    have HLn := Lib.hid (okS_pm hok).2.1
    clear hok
    go_wp2_with fail
    refine HTk.out.mono ?_
    rintro e w2 ⟨B, rfl, hB, hT, hb2⟩
    have HB2 := Lib.hid (HB1.out.trans (hb2.mono HB1.out.size))
    have HT := Lib.hid hT
    clear hb2 hT HTk HR1
    go_wp2_with fail
    go_loopw [22] (fun i wr => ∃ k : Nat, k ≤ n ∧ i = .int .i64 k ∧ Below w2.heap.size w2 wr) (fun i _ => n - (intOf i).toNat)
    case atStart => exact ⟨0, Nat.zero_le _, rfl, Below.refl _ _⟩
    case round =>
      obtain ⟨k, hk, rfl, hD⟩ := hrel
      have HD := Lib.hid hD
      clear hD
      by_cases hlt : k < n
      · obtain ⟨b, o, A', c', rfl, hc, hA'⟩ := (H.out.below (HB2.out.trans (HD.out.mono HB2.out.size))).at hlt
        obtain ⟨k1, k2, e1, e2, e3⟩ := trV_own HOk.out hlt
        have hcT := (HT.out.keep HD.out).cell hlt
        have eL := HLn.out k hlt
        rw [eL] at hc hA'
        have HI1 := Lib.hid (fun (q : Later wr) (y : Int) => Lr.same (index_any A' n c' (v k) y q.to (hA'.2.2.2.keep q.below) (by omega)))
        have q0 : ∀ q : Later wr, q.to.cell? ⟨b, o + k, none⟩ = some (.slice A' n c') := fun q => q.cell hc
        have hd1 : decide (idxI (v k) ((trV v n k : Nat) : Int) n < 0) = false := decide_eq_false (by omega)
        have hd2 : decide (idxI (v k) (k : Int) n < idxI (v k) ((trV v n k : Nat) : Int) n) = false := decide_eq_false (by omega)
        clear e1 e2 e3 hA' eL hc
        generalize trV v n k = x at *
        generalize hff : idxI (v k) = ff at *
        have HFF := Lib.hid hff
        clear hff
        go_wp2_with fail
        refine wp_region_later (by kernel_rfl) (by kernel_rfl) ?_
        repeat
          (with_reducible refine wpQuiet_step ?_
           intro K hK
           go_simp
           first
             | (refine hK _ ?_; clear hK K)
             | (apply Exists.intro
                refine ⟨fun _ => ?_, hK _ ?_⟩
                (go_at_call 29; exact Lr.later (HI1.out _ _))
                clear hK K))
        with_reducible refine wpQuiet_nil ?_
        intro _ hw'
        obtain ⟨p2, hw''⟩ := hw'
        subst hw''
        have HD2 := Lib.hid (HD.out.trans (p2.below.mono HD.out.size))
        clear q0
        go_wp2
        go_roundw
        case rel => exact ⟨k + 1, by omega, by go_num, HD2.out⟩
        case measure => simp [intOf]; omega
      · obtain rfl : k = n := by omega
        have HBe := Lib.hid (HB2.out.trans (HD.out.mono HB2.out.size))
        go_wp2_with fail
        refine (awake_any _).use fun w3 hb3 => ?_
        have HB3 := Lib.hid (HBe.out.trans (hb3.mono HBe.out.size))
        clear hb3
        go_wp2
        go_ret
        exact ⟨rfl, HB3.out⟩
end Go.Proofs.Ytocfbafcplhmiaa
