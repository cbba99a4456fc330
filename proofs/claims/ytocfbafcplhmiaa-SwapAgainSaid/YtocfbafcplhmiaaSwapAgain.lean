/- SwapAgain, walked. -/
import Derived.Test.YtocfbafcplhmiaaUw
namespace Go.Proofs.Ytocfbafcplhmiaa
open Go.RowKit

set_option maxHeartbeats 8000000 in
set_option maxRecDepth 1000000 in
theorem swapAgain_walk (A : Option Addr) (n c : Nat) (L : Nat → Nat) (v : Nat → Nat → Int) (w : World) (h : ArgR w A n c L v) :
    Calls Try.prog 4 #[.slice A n c] w fun e w' => e = .returned (.bool true) ∧ Below w.heap.size w w' := by
  have H := Lib.hid h
  clear h
  go_enter Try.func4, Try.ntmps4
  have HB0 := Lib.hid (Below.refl w.heap.size w)
  go_wp2_with fail
  refine (few7_any A n c L v w (H.out.below HB0.out)).mono ?_
  rintro e w1 ⟨x, rfl, hx, hb⟩
  obtain ⟨Aa, ca, rfl, hr, hcc⟩ := hx.own.rowsKs
  clear hx hcc
  have hbb := hb
  have HB1 := Lib.hid (HB0.out.trans (hbb.mono HB0.out.size))
  clear hbb
  clear hb
  have a_1 := Lib.hid (hr)
  clear hr
  cases hok : okS n L v with
  | false =>
    have HTb := Lib.hid (TradeFbad (cA := ca) a_1.out rfl hok)
    clear hok
    go_wp2_with fail
    refine (HTb.out).use fun w2 hb => ?_
    have hbb := hb
    have HB2 := Lib.hid (HB1.out.trans (hbb.mono HB1.out.size))
    have a_2 := Lib.hid (a_1.out.keep hbb)
    clear a_1
    clear hbb
    clear hb
    go_wp2_with fail
    refine (awake_any _).use fun w3 hb => ?_
    have hbb := hb
    have HB3 := Lib.hid (HB2.out.trans (hbb.mono HB2.out.size))
    have a_3 := Lib.hid (a_2.out.keep hbb)
    clear a_2
    clear hbb
    clear hb
    go_wp2
    go_ret
    exact ⟨rfl, HB3.out⟩
  | true =>
    obtain ⟨⟨hn1, hn5⟩, -, hpm, -⟩ := okS_pm hok
    have HOk := Lib.hid hok
    have HPm := Lib.hid hpm
    have HLn := Lib.hid (okS_pm hok).2.1
    have HVe := Lib.hid (okS_pm hok).2.2.2
    have HV := Lib.hid (fun w (h : ArgR w A n c L v) => validR_any A n c L v w h)
    rw [hok] at HV
    have HT0 : Hid (∀ p, trV v n p = tr0 (tO v) n p) := Lib.hid (fun _ => rfl)
    clear hok hpm
    go_wp2_with fail
    refine (TradeF (cA := ca) a_1.out rfl HOk.out).mono ?_
    rintro e w2 ⟨B, rfl, hB, hT, hb⟩
    have hbb := hb
    have HB2 := Lib.hid (HB1.out.trans (hbb.mono HB1.out.size))
    have a_2 := Lib.hid (a_1.out.keep hbb)
    clear a_1
    clear hbb
    clear hb
    have T_2 := Lib.hid (hT)
    clear hT
    clear a_2
    go_wp2_with fail
    refine (HV.out w2 (H.out.below HB2.out)).use fun w3 hb => ?_
    have hbb := hb.below w2.heap.size
    have HB3 := Lib.hid (HB2.out.trans (hbb.mono HB2.out.size))
    have T_3 := Lib.hid (T_2.out.keep hbb)
    clear T_2
    clear hbb
    clear hb
    have HOr := Lib.hid (isOrderR_any (some ⟨B, 0, none⟩) n n n (fun p => (trV v n p : Int)) w3 ⟨Nat.le_refl _, by unfold maxLen; omega, (fun e => by cases e), T_3.out.ints⟩ (by omega))
    rw [ordR_eq, ordB_iff.2 ⟨rfl, (trV_pm HOk.out).ord⟩] at HOr
    go_wp2_with fail
    refine (HOr.out).use fun w4 hb => ?_
    have hbb := hb.below w3.heap.size
    have HB4 := Lib.hid (HB3.out.trans (hbb.mono HB3.out.size))
    have T_4 := Lib.hid (T_3.out.keep hbb)
    clear T_3
    clear hbb
    clear hb
    clear HOr
    obtain ⟨i0, hi, hz0, hz1, hz2⟩ := info_parts infoInt
    obtain ⟨j0, gi, gz0, gz1, gz2⟩ := info_parts infoInts
    have HAg : Hid (∀ i k, agT (tO v) n i k = owF (tr0 (tO v) n) n (tO v i k)) := Lib.hid (fun _ _ => rfl)
    have HTp := Lib.hid (tr0_pm HPm.out)
    go_wp2_with fail
    go_loopw [5, 43] (fun s i wr => ∃ (k : Nat) (vals : List Value), k ≤ n ∧ i = .int .i64 k ∧ vals.length = k ∧ wr.ownsRow w4.heap.size 23 1 s k vals ∧ OwnVals wr w4.heap.size vals (fun _ => n) (fun i j => (agT (tO v) n i j : Int)) ∧ Below w4.heap.size w4 wr) (fun _ i _ => n - (intOf i).toNat)
    case atStart => exact ⟨0, [], Nat.zero_le _, rfl, rfl, World.ownsRow_nil _ _ _ _, (fun i x hx => by simp at hx), Below.refl _ _⟩
    case round =>
      obtain ⟨k, vals, hk, rfl, hvl, hown, hvals, hbel⟩ := hrel
      have HO := Lib.hid hown
      have HV2 := Lib.hid hvals
      have HL := Lib.hid hvl
      have HBl := Lib.hid hbel
      have hs0 := hbel.size
      clear hown hvals hvl hbel
      by_cases hlt : k < n
      · obtain ⟨b, o, A', c', rfl, hc, hA'⟩ := (H.out.below (HB4.out.trans (HBl.out.mono HB4.out.size))).at hlt
        have eL := HLn.out k hlt
        rw [eL] at hc hA'
        have HI := Lib.hid hA'.2.2.2
        have HTr := Lib.hid (T_4.out.keep HBl.out)
        clear hA' eL
        obtain ⟨Y, rfl⟩ : ∃ Y, Y = wr := ⟨wr, rfl⟩
        go_wp2_with fail
        clear hc
        go_loopw [8, 49] (fun r i wx => ∃ j : Nat, j ≤ n ∧ i = .int .i64 j ∧ OwnL wx Y.heap.size r (lst j (fun q => (agT (tO v) n k q : Int))) ∧ Below Y.heap.size Y wx) (fun _ i _ => n - (intOf i).toNat)
        case atStart => exact ⟨0, Nat.zero_le _, rfl, OwnL.nil_ _ _, Below.refl _ _⟩
        case round =>
          obtain ⟨j, hj, rfl, hr, hb⟩ := hrel
          have HR := Lib.hid hr
          have HBr := Lib.hid hb
          have hs1 := hb.size
          clear hr hb
          by_cases hjn : j < n
          · obtain ⟨b3, o3, rfl, hcy⟩ := (HI.out.keep HBr.out).at hjn
            have hvy := HVe.out k j hlt hjn
            rw [hvy] at hcy
            have hyl := (HPm.out k hlt).lt j hjn
            have hat := idx_owF (n := n) HTp.out hyl
            have HIx := Lib.hid (index_any (some ⟨B, 0, none⟩) n n (fun p => (trV v n p : Int)) ((tO v k j : Nat) : Int) wr ((HTr.out.keep HBr.out).ints) (by omega))
            have hat2 : idxI (fun p => (trV v n p : Int)) ((tO v k j : Nat) : Int) n = ((agT (tO v) n k j : Nat) : Int) := by rw [HAg.out]; exact hat
            rw [hat2] at HIx
            have HLs := Lib.hid (lst_succ j (fun q => (agT (tO v) n k q : Int)))
            clear hvy hyl hat hat2
            generalize agT (tO v) n k j = a at *
            generalize tO v k j = y at *
            have HO1 := Lib.hid (World.ownsRow.alloc HR.out (.cells #[.int .i64 (a : Int)] 3))
            have hlen : (lst j (fun q => (agT (tO v) n k q : Int))).length = j := lst_len _ _
            go_wp2_with fail
            refine HIx.out.mono ?_
            rintro e w' ⟨rfl, rfl⟩
            go_wp2_with (at_builtin; go_loud (refine wpList_append_own _ rfl _ _ 23 rfl Y.heap.size 3 i0 (.int .i64 0) 1 8 Try.underlying23 hi hz0 hz1 hz2 rfl (by decide) _ _ _ rfl HO1.out ⟨wr.heap.size, 0, none⟩ 1 1 [.int .i64 (a : Int)] rfl rfl (news1 _ _ _) (one1 rfl) (by unfold maxLen; omega) (by omega) (by simp; omega) ?_))
            intro v' w2 hown2 hgrow2 _
            have HO2 := Lib.hid hown2
            have HG2 := Lib.hid hgrow2
            clear hown2 hgrow2
            go_wp2
            go_roundw
            case rel =>
              refine ⟨j + 1, by omega, by go_num, ?_, (HBr.out.alloc hs1 _).grown HG2.out (by simp; omega) (fun g hg => (World.ownsRow.lt HR.out g hg).1)⟩
              rw [HLs.out]
              unfold OwnL
              rw [List.map_append, List.length_append]
              simpa [lst_len] using HO2.out
            case measure => simp [intOf]; omega
          · obtain rfl : j = n := by omega
            have HOx := Lib.hid (ownsRow_below HO.out HBr.out)
            have HVx := Lib.hid (HV2.out.below HBr.out)
            obtain ⟨Ar, cr, hre, -⟩ := HR.out.form
            rw [lst_len] at hre
            subst hre
            have hbase : w4.heap.size ≤ wr.heap.size + 1 := by omega
            go_wp2_with (at_builtin; go_loud (refine wpList_append_own _ rfl _ _ 22 rfl w4.heap.size 23 j0 (.slice none 0 0) 1 24 Try.underlying22 gi gz0 gz1 gz2 rfl (by decide) _ _ _ rfl (HOx.out.alloc _) ⟨wr.heap.size, 0, none⟩ 1 1 [.slice Ar j cr] rfl rfl (news1 _ _ _) (one1 HR.out.one) (by unfold maxLen; omega) (by omega) (by simp; omega) ?_))
            intro v' w2 hown2 hgrow2 _
            have HO2 := Lib.hid hown2
            have HG2 := Lib.hid hgrow2
            clear hown2 hgrow2
            go_wp2
            go_roundw
            case rel =>
              have hbA : Below w4.heap.size w4 w2 := by
                refine ((HBl.out.trans (HBr.out.mono hs0)).alloc (by omega) _).grown HG2.out (by simp; omega) ?_
                intro g hg
                exact (World.ownsRow.lt HO.out g hg).1
              have HK : ∀ (x : Value) (xs : List Int), OwnL wr w4.heap.size x xs → OwnL w2 w4.heap.size x xs := fun x xs hx =>
                World.ownsRow.kept (World.ownsRow.alloc hx _) HG2.out (own_other hx HOx.out (by decide))
              refine ⟨k + 1, vals ++ [.slice Ar j cr], by omega, by go_num, by simp [HL.out], by have := HO2.out; simpa using this, ?_, hbA⟩
              refine OwnVals.snoc (fun i x hx => HK _ _ (HVx.out i x hx)) HL.out ?_
              exact HK _ _ (HR.out.rebase hs0)
            case measure => simp [intOf]; omega
      · obtain rfl : k = n := by omega
        obtain ⟨Ax, cx, rfl, hwx, hcx⟩ := ownVals_wis ⟨vals, HL.out, HO.out, HV2.out⟩
        have HWx := Lib.hid hwx
        clear hwx HO HV2 HL
        have HE4 := Lib.hid (HB4.out.trans (HBl.out.mono HB4.out.size))
        go_wp2_with fail
        refine (Trade_ok Ax k cx (agT (tO v) k) wr HWx.out hn1 hn5 (agT_pm HPm.out)).mono ?_
        rintro e wu ⟨B2, rfl, hB2, hU, hbu⟩
        have HBu := Lib.hid (HE4.out.trans (hbu.mono HE4.out.size))
        have HWu := Lib.hid (HWx.out.keep hbu)
        have HU := Lib.hid (hU.congr (f' := fun p => (p : Int)) (fun p hp => congrArg (fun x : Nat => (x : Int)) (again_tr hn5 HPm.out hp)))
        clear hU hbu
        have hq1 := bne_f (a := (k : Int)) rfl
        go_wp2_with fail
        go_loopw [72] (fun i wr => ∃ q : Nat, q ≤ k ∧ i = .int .i64 q ∧ Dn wu wr) (fun i _ => k - (intOf i).toNat)
        case atStart => exact ⟨0, Nat.zero_le _, rfl, Dn.refl _⟩
        case round =>
          obtain ⟨q, hq, rfl, hD⟩ := hrel
          have HD := Lib.hid hD
          clear hD
          by_cases hqk : q < k
          · have hcq := (HU.out.dn HD.out).cell hqk
            have hqq := bne_f (a := (q : Int)) rfl
            go_wp2
            go_roundw
            case rel => exact ⟨q + 1, by omega, by go_num, HD.out⟩
            case measure => simp [intOf]; omega
          · obtain rfl : q = k := by omega
            have HBq := Lib.hid (HBu.out.trans (HD.out.below _))
            have HOb := Lib.hid (Objects_ok Ax q cx (agT (tO v) q) (some ⟨B2, 0, none⟩) q (fun p => p) wr (HWu.out.dn HD.out) (HU.out.dn HD.out).ints (Nat.le_refl _) hn1 hn5 (agT_pm HPm.out) (pm_id q))
            rw [obV_none hn5 (fun s _ => again_none hn5 HPm.out s)] at HOb
            have hqe := beq_t (a := (q : Int)) rfl
            go_wp2_with fail
            refine HOb.out.use fun wv hbv => ?_
            have HBv := Lib.hid (HBq.out.trans (hbv.mono HBq.out.size))
            clear hbv
            go_wp2_with fail
            refine (awake_any _).use fun wz hbz => ?_
            have HBz := Lib.hid (HBv.out.trans (hbz.mono HBv.out.size))
            clear hbz
            go_wp2
            go_ret
            exact ⟨rfl, HBz.out⟩
end Go.Proofs.Ytocfbafcplhmiaa
