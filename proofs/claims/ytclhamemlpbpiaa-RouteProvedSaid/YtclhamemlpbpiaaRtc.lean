/- The reference's Shown; the law's list. -/
import Derived.Test.YtclhamemlpbpiaaRtb
import Derived.Test.YtclhamemlpbpiaaWh
import Derived.Test.YtclhamemlpbpiaaGlr
namespace Go.Proofs.Ytclhamemlpbpiaa
open Go.RowKit

theorem list_any (A : Option Addr) (n c : Nat) (f : Nat → Int) (w : World) (h : ArgI w A n c f) :
    Calls Try.prog 20 #[.slice A n c] w fun e w' => ∃ v', e = .returned v' ∧ OwnL w' w.heap.size v' (lst (min n 18) f) ∧ Below w.heap.size w w' := by
  obtain ⟨h1, h2, h3, h4⟩ := h
  have H4 := Lib.hid h4
  clear h4
  by_cases hn : n ≤ 18
  · have hm := Lib.hid (Nat.min_eq_left hn)
    rcases A with _ | a
    · have hn0 : n = 0 := by
        have := h3 rfl
        omega
      subst hn0
      obtain rfl := h3 rfl
      go_enter Try.func20, Try.ntmps20
      go_wp2_with fail
      refine (clone_any _ _ _ f _ H4.out (by omega)).mono ?_
      rintro e w' ⟨v', rfl, ho, -, hb⟩
      go_wp2
      go_ret
      exact ⟨_, rfl, ho, hb⟩
    · clear h3
      go_enter Try.func20, Try.ntmps20
      go_wp2_with fail
      refine (clone_any _ _ _ f _ H4.out (by omega)).mono ?_
      rintro e w' ⟨v', rfl, ho, -, hb⟩
      go_wp2
      go_ret
      exact ⟨_, rfl, by rw [hm.out]; exact ho, hb⟩
  · have hm := Lib.hid (Nat.min_eq_right (show 18 ≤ n by omega))
    have h10 : 19 ≤ n := by omega
    rcases A with _ | a
    · have := h3 rfl
      omega
    · clear h3
      go_enter Try.func20, Try.ntmps20
      go_wp2_with fail
      refine (clone_any (some a) 18 c f _ (fun _ => by
        obtain ⟨b, o, e, hc⟩ := H4.out (by omega)
        exact ⟨b, o, e, fun k hk => hc k (by omega)⟩) (by omega)).mono ?_
      rintro e w' ⟨v', rfl, ho, -, hb⟩
      go_wp2
      go_ret
      exact ⟨_, rfl, by rw [hm.out]; exact ho, hb⟩

/-- What the reference says is shown. -/
def shR (n m : Nat) (F : Nat → Nat → Int) (f : Nat → Int) (k : Nat) (p : Nat → Int) (kp : Nat) : Bool :=
  boB n m F p kp && (decide (0 ≤ coR n m F f k) && decide (p (f (k - 1)).toNat - p (f 0).toNat = coR n m F f k))
theorem shR_eq {n m : Nat} {F : Nat → Nat → Int} {f p : Nat → Int} {k kp : Nat} (hok : okM n m F = true) : shB n m F f (min k 18) p (min kp 18) = shR n m F f k p kp := by
  have hn8 : n ≤ 8 := by have := (okM_iff.1 hok).1; omega
  have hb : boB n m F p (min kp 18) = boB n m F p kp := by
    by_cases h : kp ≤ 18
    · rw [show min kp 18 = kp by omega]
    · unfold boB
      rw [decide_eq_false (by omega), decide_eq_false (by omega)]
      rfl
  unfold shB shR
  rw [hb]
  by_cases hk : k ≤ 18
  · rw [show min k 18 = k by omega]
    cases hw : wkB n f k with
    | false =>
      have : coR n m F f k = -1 := by
        unfold coR
        by_cases h0 : k = 0
        · rw [if_pos h0]
        · rw [if_neg h0, hw]
          rfl
      rw [this]
      simp
    | true =>
      by_cases h0 : 0 < k
      · rcases wk_way hok hw h0 with ⟨e1, e2, e3⟩ | ⟨e1, e2⟩
        · rw [decide_eq_true e1, decide_eq_true h0, e2, decide_eq_true (by omega : (0 : Int) ≤ wkS (stT n m F) f k)]
          simp
        · rw [decide_eq_false e1, e2]
          simp
      · have : coR n m F f k = -1 := by
          unfold coR
          rw [if_pos (by omega)]
        rw [decide_eq_false h0, this]
        simp
  · have h1 : wkB n f (min k 18) = false := by
      cases e : wkB n f (min k 18) with
      | false => rfl
      | true =>
        have := wkB_le e
        omega
    have h2 : wkB n f k = false := by
      cases e : wkB n f k with
      | false => rfl
      | true =>
        have := wkB_le e
        omega
    have : coR n m F f k = -1 := by
      unfold coR
      rw [if_neg (by omega), h2]
      rfl
    rw [h1, this]
    simp
theorem coR_pos {n m : Nat} {F : Nat → Nat → Int} {f : Nat → Int} {k : Nat} (h : 0 ≤ coR n m F f k) : 0 < k ∧ wkB n f k = true := by
  unfold coR at h
  by_cases h0 : k = 0
  · rw [if_pos h0] at h
    omega
  · rw [if_neg h0] at h
    refine ⟨by omega, ?_⟩
    cases e : wkB n f k with
    | true => rfl
    | false =>
      rw [e] at h
      simp at h
set_option maxHeartbeats 4000000 in
set_option maxRecDepth 1000000 in
theorem refShown_any (A B C : Option Addr) (m c n k cB kp cC : Nat) (F : Nat → Nat → Int) (f p : Nat → Int) (w : World) (h : Recs 3 w A m F) (hI : Ints w B k f) (hP : Ints w C kp p) (hok : okM n m F = true) (hk : k ≤ 9223372036854775807) (hkc : k ≤ cB) (hkp : kp ≤ 9223372036854775807) :
    Lr 21 #[.agg #[.int .i64 n, .slice A m c], .slice B k cB, .slice C kp cC] w (.bool (shR n m F f k p kp)) := by
  unfold Lr
  obtain ⟨⟨hn1, hn8⟩, hm16, hrd⟩ := okM_iff.1 hok
  have hB1 := MapBR.new w n (.slice A m c)
  have hb1 := (Below.refl w.heap.size w).alloc (Nat.le_refl _) (.cells #[.int .i64 n, .slice A m c] 24)
  obtain ⟨W1, hW1⟩ : ∃ W1, W1 = w.alloc (.cells #[.int .i64 n, .slice A m c] 24) := ⟨_, rfl⟩
  rw [← hW1] at hB1 hb1
  have HWW : Hid (w.alloc (.cells #[.int .i64 n, .slice A m c] 24) = W1) := Lib.hid hW1.symm
  have HMB : Hid (∀ w', Below W1.heap.size W1 w' → MapBR w' w.heap.size n (.slice A m c) ∧ Below w.heap.size w w') := Lib.hid (fun w' hb => ⟨hB1.keep hb, hb1.trans (hb.mono hb1.size)⟩)
  have HIn := Lib.hid (fun w' (hb : Below W1.heap.size W1 w') => hI.keep (hb1.trans (hb.mono hb1.size)))
  have HPn := Lib.hid (fun w' (hb : Below W1.heap.size W1 w') => hP.keep (hb1.trans (hb.mono hb1.size)))
  have HRc := Lib.hid (fun w' (hb : Below W1.heap.size W1 w') => h.keep (hb1.trans (hb.mono hb1.size)))
  have HCo := Lib.hid (fun w' (hb : Below W1.heap.size W1 w') => refCost_any A B m c n k cB F f w' (h.keep (hb1.trans (hb.mono hb1.size))) (hI.keep (hb1.trans (hb.mono hb1.size))) hok hk hkc)
  have HRd := Lib.hid hrd
  have q0 := hB1.c0
  have q1 := hB1.c1
  have HDef : Hid (shR n m F f k p kp = (boB n m F p kp && (decide (0 ≤ coR n m F f k) && decide (p (f (k - 1)).toNat - p (f 0).toNat = coR n m F f k)))) := Lib.hid rfl
  have HBo : Hid (boB n m F p kp = (decide (kp = n) && (rgB p kp && ptB m F p))) := Lib.hid rfl
  have HPt := Lib.hid (fun h => (ptB_iff (m := m) (F := F) (p := p)).2 h)
  have HPf := Lib.hid (fun (j : Nat) (hj : j < m) (h : ¬ (p (F j 0).toNat - p (F j 1).toNat ≤ F j 2 ∧ -(p (F j 0).toNat - p (F j 1).toNat) ≤ F j 2)) => show ptB m F p = false by
    cases e : ptB m F p with
    | false => rfl
    | true => exact absurd (ptB_iff.1 e j hj) h)
  have HRn := Lib.hid (fun h => (rgB_iff (p := p) (k := kp)).2 h)
  have HRf := Lib.hid (fun (j : Nat) (hj : j < kp) (h : ¬ (-1000 ≤ p j ∧ p j ≤ 1000)) => show rgB p kp = false by
    cases e : rgB p kp with
    | false => rfl
    | true => exact absurd (rgB_iff.1 e j hj) h)
  have HCp := Lib.hid (coR_pos (n := n) (m := m) (F := F) (f := f) (k := k))
  have hm2 : (m : Int) ≤ 16 := by omega
  generalize shR n m F f k p kp = SH at *
  generalize boB n m F p kp = BO at *
  generalize coR n m F f k = CR at *
  clear hB1 hb1 hW1 h hI hP hok hrd
  go_enter Try.func21, Try.ntmps21
  by_cases hkn : kp = n
  · have hq : ((kp : Int) != n) = false := bne_f (by omega)
    have HKn := Lib.hid hkn
    clear hkn
    go_wp2_with fail
    rw [HWW.out]
    clear HWW
    go_wp2
    go_loopw [20] (fun i wr => ∃ j : Nat, j ≤ kp ∧ i = .int .i64 j ∧ (∀ x, x < j → -1000 ≤ p x ∧ p x ≤ 1000) ∧ Below W1.heap.size W1 wr) (fun i _ => kp - (intOf i).toNat)
    case atStart => exact ⟨0, Nat.zero_le _, rfl, fun x hx => absurd hx (Nat.not_lt_zero _), Below.refl _ _⟩
    case round =>
      obtain ⟨j, hj, rfl, hA, hDo⟩ := hrel
      have HA := Lib.hid hA
      have HDo := Lib.hid hDo
      clear hA hDo q0 q1
      have q0 := (HMB.out wr HDo.out).1.c0
      have q1 := (HMB.out wr HDo.out).1.c1
      by_cases hlt : j < kp
      · obtain ⟨bC, oC, rfl, hcp⟩ := (HPn.out wr HDo.out).at hlt
        have HF1 := Lib.hid (HRf.out j hlt)
        have HS1 : Hid ((-1000 ≤ p j ∧ p j ≤ 1000) → ∀ x, x < j + 1 → -1000 ≤ p x ∧ p x ≤ 1000) := Lib.hid (fun h x hx => by
          rcases Nat.lt_or_ge x j with hl | hl
          · exact HA.out x hl
          · obtain rfl : x = j := by omega
            exact h)
        generalize p j = pj at *
        by_cases h1 : pj < -1000
        · have d1 : decide (pj < -1000) = true := decide_eq_true h1
          have E := Lib.hid (show SH = false by rw [HDef.out, HBo.out, HF1.out (by omega)]; simp)
          go_wp2
          go_ret
          exact ⟨ret_bool E.out.symm, (HMB.out _ HDo.out).2⟩
        have d1 : decide (pj < -1000) = false := decide_eq_false h1
        by_cases h2 : 1000 < pj
        · have d2 : decide (1000 < pj) = true := decide_eq_true h2
          have E := Lib.hid (show SH = false by rw [HDef.out, HBo.out, HF1.out (by omega)]; simp)
          go_wp2
          go_ret
          exact ⟨ret_bool E.out.symm, (HMB.out _ HDo.out).2⟩
        have d2 : decide (1000 < pj) = false := decide_eq_false h2
        have HS2 := Lib.hid (HS1.out (by omega))
        go_wp2
        go_roundw
        case rel => exact ⟨j + 1, by omega, by go_num, HS2.out, HDo.out⟩
        case measure => simp [intOf]; omega
      · obtain rfl : j = kp := by omega
        have HG := Lib.hid (HRn.out HA.out)
        go_wp2
        go_loopw [34] (fun i wx => ∃ j : Nat, j ≤ m ∧ i = .int .i64 j ∧ (∀ x, x < j → p (F x 0).toNat - p (F x 1).toNat ≤ F x 2 ∧ -(p (F x 0).toNat - p (F x 1).toNat) ≤ F x 2) ∧ Below W1.heap.size W1 wx) (fun i _ => m - (intOf i).toNat)
        case atStart => exact ⟨0, Nat.zero_le _, rfl, fun x hx => absurd hx (Nat.not_lt_zero _), HDo.out⟩
        case round =>
          obtain ⟨i, hi, rfl, hA2, hD⟩ := hrel
          have HA2 := Lib.hid hA2
          have HD := Lib.hid hD
          clear hA2 hD
          by_cases hlm : i < m
          · clear q0 q1
            obtain ⟨b, o, rfl, c0, c1, c2⟩ := (HRc.out wr HD.out).three hlm
            have hF := HRd.out i hlm
            have hk0 : 0 < j := by have := HKn.out; omega
            obtain ⟨bp, op, rfl, -⟩ := (HPn.out wr HD.out).at hk0
            have HNo := Lib.hid (HPf.out i hlm)
            obtain ⟨x, hx⟩ : ∃ x : Nat, F i 0 = x := ⟨(F i 0).toNat, by omega⟩
            obtain ⟨y, hy⟩ : ∃ y : Nat, F i 1 = y := ⟨(F i 1).toNat, by omega⟩
            have hxk : x < j := by have := HKn.out; omega
            have hyk : y < j := by have := HKn.out; omega
            rw [hx] at c0
            rw [hy] at c1
            rw [hx, hy, Int.toNat_natCast, Int.toNat_natCast] at HNo
            have HSu : Hid ((p x - p y ≤ F i 2 ∧ -(p x - p y) ≤ F i 2) → ∀ z, z < i + 1 → p (F z 0).toNat - p (F z 1).toNat ≤ F z 2 ∧ -(p (F z 0).toNat - p (F z 1).toNat) ≤ F z 2) := Lib.hid (fun h z hz => by
              rcases Nat.lt_or_ge z i with hl | hl
              · exact HA2.out z hl
              · obtain rfl : z = i := by omega
                rw [hx, hy, Int.toNat_natCast, Int.toNat_natCast]
                exact h)
            clear hx hy hF
            have hp1 := (HA.out x hxk).1
            have hp2 := (HA.out x hxk).2
            have hp3 := (HA.out y hyk).1
            have hp4 := (HA.out y hyk).2
            have hs := HD.out.size
            have hq := HD.out.alloc hs (.cells #[.int .i64 (x : Int), .int .i64 (y : Int), .int .i64 (F i 2)] 65)
            have cx := Ints.cell (HPn.out _ hq) hxk
            have cy := Ints.cell (HPn.out _ hq) hyk
            have hxki : (x : Int) < j := by omega
            have hyki : (y : Int) < j := by omega
            have HQ := Lib.hid hq
            clear hq hs
            generalize p x = px at *
            generalize p y = py at *
            generalize F i 2 = ct at *
            go_wp2_with fail
            go_quiet (fail)
            rename_i nq
            have HQ2 := Lib.hid (HQ.out.trans (((Dn.refl _).drewN nq).below _))
            clear cx cy c0 c1 c2
            by_cases hm : ct < px - py
            · have d3 : decide (ct < px - py) = true := decide_eq_true hm
              have E := Lib.hid (show SH = false by rw [HDef.out, HBo.out, HNo.out (by omega)]; simp)
              go_wp2
              go_ret
              exact ⟨ret_bool E.out.symm, (HMB.out _ HQ2.out).2⟩
            have d3 : decide (ct < px - py) = false := decide_eq_false hm
            by_cases hm2 : ct < -(px - py)
            · have d4 : decide (ct < -(px - py)) = true := decide_eq_true hm2
              have E := Lib.hid (show SH = false by rw [HDef.out, HBo.out, HNo.out (by omega)]; simp)
              go_wp2
              go_ret
              exact ⟨ret_bool E.out.symm, (HMB.out _ HQ2.out).2⟩
            have d4 : decide (ct < -(px - py)) = false := decide_eq_false hm2
            have HS2 := Lib.hid (HSu.out (by omega))
            go_wp2
            go_roundw
            case rel => exact ⟨i + 1, by omega, by go_num, HS2.out, HQ2.out⟩
            case measure => simp [intOf]; omega
          · obtain rfl : i = m := by omega
            have HBt := Lib.hid (show BO = true by
              rw [HBo.out, HPt.out HA2.out, HG.out, decide_eq_true HKn.out]
              rfl)
            clear q0 q1
            have q0 := (HMB.out wr HD.out).1.c0
            have q1 := (HMB.out wr HD.out).1.c1
            go_wp2_with fail
            refine (HCo.out wr HD.out).use fun w5 hb5 => ?_
            have HB5 := Lib.hid (HD.out.trans (hb5.mono HD.out.size))
            clear hb5 q0 q1
            by_cases hneg : CR < 0
            · have d5 : decide (0 ≤ CR) = false := decide_eq_false (by omega)
              have E := Lib.hid (show SH = false by rw [HDef.out, d5]; simp)
              go_wp2_with fail
              go_quiet (fail)
              rename_i nq
              have HQ2 := Lib.hid (HB5.out.trans (((Dn.refl _).drewN nq).below _))
              go_wp2
              go_ret
              exact ⟨ret_bool E.out.symm, (HMB.out _ HQ2.out).2⟩
            · have d5 : decide (0 ≤ CR) = true := decide_eq_true (by omega)
              obtain ⟨hk0, hwkb⟩ := HCp.out (by omega)
              have hwk := wkB_iff.1 hwkb
              have HD5 := Lib.hid (show SH = decide (p (f (k - 1)).toNat - p (f 0).toNat = CR) by rw [HDef.out, d5, HBt.out]; rfl)
              obtain ⟨r, hr⟩ : ∃ r, r = k - 1 := ⟨_, rfl⟩
              rw [← hr] at HD5
              have hrk0 : r < k := by omega
              obtain ⟨x, hx⟩ : ∃ x : Nat, f r = x := ⟨(f r).toNat, by have := (hwk r hrk0).1; omega⟩
              obtain ⟨z, hz⟩ : ∃ z : Nat, f 0 = z := ⟨(f 0).toNat, by have := (hwk 0 hk0).1; omega⟩
              have hxk : x < j := by have := (hwk r hrk0).1; have := HKn.out; omega
              have hzk : z < j := by have := (hwk 0 hk0).1; have := HKn.out; omega
              rw [hx, hz, Int.toNat_natCast, Int.toNat_natCast] at HD5
              obtain ⟨bB, oB, rfl, -⟩ := (HIn.out w5 HB5.out).at hk0
              obtain ⟨bC, oC, rfl, -⟩ := (HPn.out w5 HB5.out).at (show 0 < j by omega)
              have c0 := Ints.cell (HIn.out w5 HB5.out) hrk0
              have c1 := Ints.cell0 (HIn.out w5 HB5.out) hk0
              rw [hx] at c0
              rw [hz] at c1
              have c2 := Ints.cell (HPn.out w5 HB5.out) hxk
              have c3 := Ints.cell (HPn.out w5 HB5.out) hzk
              have hp1 := (HA.out x hxk).1
              have hp2 := (HA.out x hxk).2
              have hp3 := (HA.out z hzk).1
              have hp4 := (HA.out z hzk).2
              have hw2 : IntKind.i64.wrap ((k : Int) - 1) = (r : Int) := (IntWalk.i64_in _ ⟨by omega, by omega⟩).trans (by omega)
              have hrki : (r : Int) < k := by omega
              have hki0 : (0 : Int) < k := by omega
              have hxki : (x : Int) < j := by omega
              have hzki : (z : Int) < j := by omega
              generalize p x = px at *
              generalize p z = pz at *
              have hw3 : IntKind.i64.wrap (px - pz) = px - pz := IntWalk.i64_in _ ⟨by omega, by omega⟩
              clear hr hx hz hwk hwkb
              by_cases he : px - pz = CR
              · have hq := beq_t he
                have E := Lib.hid (show SH = true by rw [HD5.out]; exact decide_eq_true he)
                clear he
                go_wp2_with fail
                refine wp_region_later (by kernel_rfl) (by kernel_rfl) ?_
                have k0 : ∀ q : Later w5, q.to.cell? ⟨bB, oB + r, none⟩ = some (.int .i64 (x : Int)) := fun q => q.cell c0
                have k1 : ∀ q : Later w5, q.to.cell? ⟨bB, oB, none⟩ = some (.int .i64 (z : Int)) := fun q => q.cell c1
                have k2 : ∀ q : Later w5, q.to.cell? ⟨bC, oC + x, none⟩ = some (.int .i64 px) := fun q => q.cell c2
                have k3 : ∀ q : Later w5, q.to.cell? ⟨bC, oC + z, none⟩ = some (.int .i64 pz) := fun q => q.cell c3
                clear c0 c1 c2 c3
                repeat
                  (with_reducible refine wpQuiet_step ?_
                   intro K hK
                   go_simp
                   refine hK _ ?_
                   clear hK K)
                with_reducible refine wpQuiet_nil ?_
                intro _ hw'
                obtain ⟨q, rfl⟩ := hw'
                have HBy := Lib.hid (HMB.out _ (HB5.out.trans (q.below.mono HB5.out.size))).2
                clear k0 k1 k2 k3
                generalize q.to = wy at *
                go_wp2
                go_ret
                exact ⟨ret_bool E.out.symm, HBy.out⟩
              · have hq := beq_f he
                have E := Lib.hid (show SH = false by rw [HD5.out]; exact decide_eq_false he)
                clear he
                go_wp2_with fail
                refine wp_region_later (by kernel_rfl) (by kernel_rfl) ?_
                have k0 : ∀ q : Later w5, q.to.cell? ⟨bB, oB + r, none⟩ = some (.int .i64 (x : Int)) := fun q => q.cell c0
                have k1 : ∀ q : Later w5, q.to.cell? ⟨bB, oB, none⟩ = some (.int .i64 (z : Int)) := fun q => q.cell c1
                have k2 : ∀ q : Later w5, q.to.cell? ⟨bC, oC + x, none⟩ = some (.int .i64 px) := fun q => q.cell c2
                have k3 : ∀ q : Later w5, q.to.cell? ⟨bC, oC + z, none⟩ = some (.int .i64 pz) := fun q => q.cell c3
                clear c0 c1 c2 c3
                repeat
                  (with_reducible refine wpQuiet_step ?_
                   intro K hK
                   go_simp
                   refine hK _ ?_
                   clear hK K)
                with_reducible refine wpQuiet_nil ?_
                intro _ hw'
                obtain ⟨q, rfl⟩ := hw'
                have HBy := Lib.hid (HMB.out _ (HB5.out.trans (q.below.mono HB5.out.size))).2
                clear k0 k1 k2 k3
                generalize q.to = wy at *
                go_wp2
                go_ret
                exact ⟨ret_bool E.out.symm, HBy.out⟩
  · have hq : ((kp : Int) != n) = true := bne_t (by omega)
    have E := Lib.hid (show SH = false by rw [HDef.out, HBo.out, decide_eq_false hkn]; rfl)
    go_wp2_with fail
    rw [HWW.out]
    clear HWW
    go_wp2
    go_ret
    exact ⟨ret_bool E.out.symm, (HMB.out _ (Below.refl _ _)).2⟩
end Go.Proofs.Ytclhamemlpbpiaa
