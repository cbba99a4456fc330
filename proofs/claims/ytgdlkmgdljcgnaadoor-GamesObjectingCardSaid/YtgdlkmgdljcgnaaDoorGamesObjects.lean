import Derived.Test.YtgdlkmgdljcgnaaDoorGt
import Derived.Test.YtgdlkmgdljcgnaaDoorGamesConcave
namespace Go.Proofs.YtgdlkmgdljcgnaaDoor
open Go.RowKit

theorem shB_min {L n : Nat} {C : Nat → Int} {F : Nat → Nat → Int} (hok : okC L C = true) (h : (pyAll F n && decide (n = tzN L)) = false) : shB L (min n 6) C F = false := by
  cases h2 : shB L (min n 6) C F with
  | false => rfl
  | true =>
    obtain ⟨k, hk, hk1, hk4, -⟩ := okC_n hok
    obtain ⟨h3, h4, -⟩ := shB_py h2
    have hn : min n 6 = n := by omega
    rw [hn] at h3 h4
    rw [h4, decide_eq_true h3] at h
    cases h
theorem obV_bad {L n : Nat} {C : Nat → Int} {F : Nat → Nat → Int} (h : shB L n C F = false) : obV L n C F = .tuple #[.int .i64 0, .int .i64 2] := by unfold obV; rw [h]; rfl
theorem obV_good {L n : Nat} {C : Nat → Int} {F : Nat → Nat → Int} (h : shB L n C F = true) : obV L n C F = orV L n C F := by unfold obV orV; rw [h]; rfl
theorem shB_all {L n : Nat} {C : Nat → Int} {F : Nat → Nat → Int} (h1 : n = tzN L) (h2 : pyAll F n = true) : shB L n C F = decide (exS n C F (L - 1) = 0) := by
  unfold shB
  rw [decide_eq_true h1, h2, Bool.true_and, Bool.true_and]
/-- Objects' answer as two numbers. -/
theorem orV_two (L n : Nat) (C : Nat → Int) (F : Nat → Nat → Int) : ∃ a b : Int, orV L n C F = .tuple #[.int .i64 a, .int .i64 b] := by
  unfold orV
  split
  · exact ⟨_, _, rfl⟩
  · exact ⟨_, _, rfl⟩

set_option maxHeartbeats 4000000 in
set_option maxRecDepth 1000000 in
theorem gamesObjects_walk (A : Option Addr) (n c : Nat) (C : Nat → Int) (B : Option Addr) (m c2 : Nat) (F : Nat → Nat → Int) (W : World) (h : ArgI W A n c C) (hf : ArgK 2 W B m c2 F) (ht : Tab W) : TrueBelow 12 #[.slice A n c, .slice B m c2] W := by
  have hnm : n ≤ maxLen := Nat.le_trans h.1 h.2.1
  have H := Lib.hid h
  have HF := Lib.hid hf
  have Hn := Lib.hid hnm
  have HT := Lib.hid ht
  have HMin := Lib.hid (okC_min n C)
  clear h hf hnm ht
  show Calls _ _ _ _ _
  go_enter Tryd.func12, Tryd.ntmps12
  go_wp2_with fail
  refine (list_any A n c C W H.out).mono ?_
  rintro e w1 ⟨v, rfl, hv, hb1⟩
  obtain ⟨A1, c1, rfl, hI⟩ := hv.ints
  have HI := Lib.hid hI.2.2.2
  have HB1 := Lib.hid hb1
  clear hv hI hb1
  go_wp2_with fail
  refine (fracs_any B m c2 F w1 (HF.out.below HB1.out)).mono ?_
  rintro e w2 ⟨x, rfl, hx, hb2⟩
  obtain ⟨B1, d1, rfl, hK⟩ := hx.arg
  have HK := Lib.hid hK.2.2.2
  have HB2 := Lib.hid (HB1.out.trans (hb2.mono HB1.out.size))
  have HI2 := Lib.hid (HI.out.keep hb2)
  have HT2 := Lib.hid (HT.out.keep HB2.out)
  have hm6 : min m 6 ≤ 6 := by omega
  clear hx hK hb2
  cases hok : okC n C with
  | false =>
    have HO1 := Lib.hid (show okC (min n 18) C = false by rw [HMin.out]; exact hok)
    have HP : Hid (plN n C = 0) := Lib.hid (by unfold plN; rw [hok]; rfl)
    clear hok
    go_wp2_with fail
    refine (objects_bad A1 B1 (min n 18) c1 (min m 6) d1 C w2 HI2.out (by omega) HO1.out HT2.out).use fun w3 hb3 => ?_
    have HB3 := Lib.hid (HB2.out.trans (hb3.mono HB2.out.size))
    have HT3 := Lib.hid (HT2.out.keep hb3)
    clear hb3
    go_wp2_with fail
    refine (refPlayers_any A n c C w3 (H.out.below HB3.out).2.2.2 Hn.out).mono ?_
    rintro e w4 ⟨rfl, rfl⟩
    rw [HP.out]
    go_wp2_with fail
    refine wp_region_later (by kernel_rfl) (by kernel_rfl) ?_
    repeat
      (with_reducible refine wpQuiet_step ?_
       intro K hK
       go_simp
       (refine hK _ ?_; clear hK K))
    with_reducible refine wpQuiet_nil ?_
    intro _ hw'
    obtain ⟨p2, hw''⟩ := hw'
    subst hw''
    have HB4 := Lib.hid (HB3.out.trans (p2.below.mono HB3.out.size))
    have HT4 := Lib.hid (HT3.out.keep p2.below)
    go_wp2_with fail
    refine (awake_any _ HT4.out).use fun w5 hb5 => ?_
    have HB5 := Lib.hid (HB4.out.trans (hb5.mono HB4.out.size))
    clear hb5
    go_wp2
    go_ret
    exact ⟨rfl, HB5.out⟩
  | true =>
    have HO := Lib.hid hok
    obtain ⟨k, hk, hk1, hk4, hL, hL2, hL16⟩ := okC_n hok
    have HP : Hid (plN n C = k) := Lib.hid (by unfold plN; rw [hok, if_pos rfl, hk])
    have hmn : min n 18 = n := by omega
    rw [hmn] at HI2 ⊢
    have Hk := Lib.hid hk
    have hne := beq_f (a := (k : Int)) (b := 0) (by omega)
    have HOb := Lib.hid (objects_ok A1 B1 n c1 (min m 6) d1 C F w2 HI2.out HK.out (by omega) HO.out HT2.out)
    clear hok hk hL hmn
    cases hp : (pyAll F m && decide (m = k)) with
    | false =>
      have HSh := Lib.hid (shB_min (n := m) HO.out (by rw [Hk.out]; exact hp))
      have HV := Lib.hid (obV_bad HSh.out)
      have HPay := Lib.hid (fun (w : World) (hb : Below W.heap.size W w) => refPayments_any B m c2 k F w (HF.out.below hb))
      rw [hp] at HPay
      rw [HV.out] at HOb
      clear hp
      go_wp2_with fail
      refine HOb.out.use fun w3 hb3 => ?_
      have HB3 := Lib.hid (HB2.out.trans (hb3.mono HB2.out.size))
      have HT3 := Lib.hid (HT2.out.keep hb3)
      clear hb3
      go_wp2_with fail
      refine (refPlayers_any A n c C w3 (H.out.below HB3.out).2.2.2 Hn.out).mono ?_
      rintro e w4 ⟨rfl, rfl⟩
      rw [HP.out]
      have HPay3 := Lib.hid (fun (w : World) (hb : Below w3.heap.size w3 w) => HPay.out w (HB3.out.trans (hb.mono HB3.out.size)))
      go_wp2_with fail
      refine wp_region_later (by kernel_rfl) (by kernel_rfl) ?_
      repeat
        (with_reducible refine wpQuiet_step ?_
         intro K hK
         go_simp
         first
           | (refine hK _ ?_; clear hK K)
           | (apply Exists.intro
              refine ⟨fun _ => ?_, hK _ ?_⟩
              (first | (go_at_call 31; exact Lr.later (HPay3.out _ (Later.below (by assumption)))))
              clear hK K))
      with_reducible refine wpQuiet_nil ?_
      intro _ hw'
      obtain ⟨p2, hw''⟩ := hw'
      subst hw''
      have HB4 := Lib.hid (HB3.out.trans (p2.below.mono HB3.out.size))
      have HT4 := Lib.hid (HT3.out.keep p2.below)
      go_wp2_with fail
      refine (awake_any _ HT4.out).use fun w5 hb5 => ?_
      have HB5 := Lib.hid (HB4.out.trans (hb5.mono HB4.out.size))
      clear hb5
      go_wp2
      go_ret
      exact ⟨rfl, HB5.out⟩
    | true =>
      have HPay := Lib.hid (fun (w : World) (hb : Below W.heap.size W w) => refPayments_any B m c2 k F w (HF.out.below hb))
      rw [hp] at HPay
      rw [Bool.and_eq_true, decide_eq_true_iff] at hp
      obtain ⟨hpy, hmk⟩ := hp
      have hm4 : m ≤ 4 := by omega
      have hmm : min m 6 = m := by omega
      rw [hmm] at HOb HK ⊢
      have HPy := Lib.hid hpy
      have HSh := Lib.hid (shB_all (C := C) (hmk.trans Hk.out.symm) hpy)
      clear hpy hmk hmm
      obtain ⟨L1, hL1⟩ : ∃ L1, n - 1 = L1 := ⟨_, rfl⟩
      rw [hL1] at HSh
      have hl1 : L1 < n := by omega
      have hsub : (n : Int) - 1 = (L1 : Int) := by omega
      have hwr : IntKind.i64.wrap (L1 : Int) = (L1 : Int) := IntWalk.i64_in _ (by omega)
      have HEq := Lib.hid (eq_ex HPy.out C L1)
      have HPs := Lib.hid (fun (w : World) (hb : Below W.heap.size W w) => pays_lr B m c2 L1 F w (HF.out.below hb).2.2.2 hm4 HPy.out)
      have hcmp := fun w => cmpF (pA F L1 m) (pB F L1 m) (C L1) 1 w
      rw [HEq.out, ← HSh.out] at hcmp
      obtain ⟨g, o, rfl, hc⟩ := H.out.2.2.2.at hl1
      have Hc := Lib.hid hc
      generalize C L1 = xx at *
      generalize pA F L1 m = aa at *
      generalize pB F L1 m = bb at *
      have HORo := Lib.hid (fun (w : World) (hb : Below W.heap.size W w) => refObjects_any (some ⟨g, o, none⟩) B n c m c2 C F w (H.out.below hb).2.2.2 (HF.out.below hb).2.2.2 hm4 HO.out HPy.out)
      clear hc hL1
      cases hs : shB n m C F with
      | false =>
        rw [hs] at hcmp
        have HV := Lib.hid (obV_bad hs)
        rw [HV.out] at HOb
        clear hs
        go_wp2_with fail
        refine HOb.out.use fun w3 hb3 => ?_
        have HB3 := Lib.hid (HB2.out.trans (hb3.mono HB2.out.size))
        have HT3 := Lib.hid (HT2.out.keep hb3)
        clear hb3
        go_wp2_with fail
        refine (refPlayers_any _ n c C w3 (H.out.below HB3.out).2.2.2 Hn.out).mono ?_
        rintro e w4 ⟨rfl, rfl⟩
        rw [HP.out]
        have HPay3 := Lib.hid (fun (w : World) (hb : Below w3.heap.size w3 w) => HPay.out w (HB3.out.trans (hb.mono HB3.out.size)))
        have HPs3 := Lib.hid (fun (w : World) (hb : Below w3.heap.size w3 w) => HPs.out w (HB3.out.trans (hb.mono HB3.out.size)))
        have k0 : ∀ q : Later w3, q.to.cell? ⟨g, o + L1, none⟩ = some (.int .i64 xx) := fun q => q.cell ((HB3.out.cell (World.block_lt_of_cell? _ _ Hc.out)).trans Hc.out)
        go_wp2_with fail
        refine wp_region_later (by kernel_rfl) (by kernel_rfl) ?_
        repeat
          (with_reducible refine wpQuiet_step ?_
           intro K hK
           go_simp
           first
             | (refine hK _ ?_; clear hK K)
             | (apply Exists.intro
                refine ⟨fun _ => ?_, hK _ ?_⟩
                (first | (go_at_call 31; exact Lr.later (HPay3.out _ (Later.below (by assumption)))) | (go_at_call 33; exact Lr.later (HPs3.out _ (Later.below (by assumption)))))
                clear hK K))
        with_reducible refine wpQuiet_nil ?_
        intro _ hw'
        obtain ⟨p2, hw''⟩ := hw'
        subst hw''
        have HB4 := Lib.hid (HB3.out.trans (p2.below.mono HB3.out.size))
        have HT4 := Lib.hid (HT3.out.keep p2.below)
        clear k0
        go_wp2_with fail
        refine (awake_any _ HT4.out).use fun w5 hb5 => ?_
        have HB5 := Lib.hid (HB4.out.trans (hb5.mono HB4.out.size))
        clear hb5
        go_wp2
        go_ret
        exact ⟨rfl, HB5.out⟩
      | true =>
        rw [hs] at hcmp
        have HV := Lib.hid (obV_good hs)
        obtain ⟨za, zb, hz⟩ := orV_two n m C F
        rw [HV.out, hz] at HOb
        rw [hz] at HORo
        clear hs hz
        go_wp2_with fail
        refine HOb.out.use fun w3 hb3 => ?_
        have HB3 := Lib.hid (HB2.out.trans (hb3.mono HB2.out.size))
        have HT3 := Lib.hid (HT2.out.keep hb3)
        clear hb3
        go_wp2_with fail
        refine (refPlayers_any _ n c C w3 (H.out.below HB3.out).2.2.2 Hn.out).mono ?_
        rintro e w4 ⟨rfl, rfl⟩
        rw [HP.out]
        have HPay3 := Lib.hid (fun (w : World) (hb : Below w3.heap.size w3 w) => HPay.out w (HB3.out.trans (hb.mono HB3.out.size)))
        have HPs3 := Lib.hid (fun (w : World) (hb : Below w3.heap.size w3 w) => HPs.out w (HB3.out.trans (hb.mono HB3.out.size)))
        have k0 : ∀ q : Later w3, q.to.cell? ⟨g, o + L1, none⟩ = some (.int .i64 xx) := fun q => q.cell ((HB3.out.cell (World.block_lt_of_cell? _ _ Hc.out)).trans Hc.out)
        go_wp2_with fail
        refine wp_region_later (by kernel_rfl) (by kernel_rfl) ?_
        repeat
          (with_reducible refine wpQuiet_step ?_
           intro K hK
           go_simp
           first
             | (refine hK _ ?_; clear hK K)
             | (apply Exists.intro
                refine ⟨fun _ => ?_, hK _ ?_⟩
                (first | (go_at_call 31; exact Lr.later (HPay3.out _ (Later.below (by assumption)))) | (go_at_call 33; exact Lr.later (HPs3.out _ (Later.below (by assumption)))))
                clear hK K))
        with_reducible refine wpQuiet_nil ?_
        intro _ hw'
        obtain ⟨p2, hw''⟩ := hw'
        subst hw''
        have HB4 := Lib.hid (HB3.out.trans (p2.below.mono HB3.out.size))
        have HT4 := Lib.hid (HT3.out.keep p2.below)
        clear k0
        go_wp2_with fail
        refine (HORo.out _ HB4.out).use fun w5 hb5 => ?_
        have HB5 := Lib.hid (HB4.out.trans (hb5.mono HB4.out.size))
        have HT5 := Lib.hid (HT4.out.keep hb5)
        clear hb5
        go_wp2_with fail
        refine (awake_any w5 HT5.out).use fun w6 hb6 => ?_
        have HB6 := Lib.hid (HB5.out.trans (hb6.mono HB5.out.size))
        clear hb6
        go_wp2
        go_ret
        exact ⟨rfl, HB6.out⟩
end Go.Proofs.YtgdlkmgdljcgnaaDoor
