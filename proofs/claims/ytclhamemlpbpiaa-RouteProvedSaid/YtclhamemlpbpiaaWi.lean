/- The reference's Cost. -/
import Derived.Test.YtclhamemlpbpiaaWf
import Derived.Test.YtclhamemlpbpiaaHu
import Derived.Test.YtclhamemlpbpiaaRowC
namespace Go.Proofs.Ytclhamemlpbpiaa
open Go.RowKit

theorem coR_out {n m : Nat} {F : Nat → Nat → Int} {f : Nat → Int} {k i : Nat} (hi : i < k) (h : inB n (f i) = false ∨ hasB f (f i) i = true) : coR n m F f k = -1 := by
  unfold coR
  have : wkB n f k = false := by
    unfold wkB
    refine allB_f hi ?_
    rcases h with h | h
    · rw [h]
      rfl
    · rw [h]
      simp
  rw [if_neg (by omega), this]
  rfl
theorem coR_no {n m : Nat} {F : Nat → Nat → Int} {f : Nat → Int} {k i : Nat} (hi : i < k) (h0 : 0 < i) (h : stR F (f (i - 1)) (f i) m < 0) : coR n m F f k = -1 := by
  unfold coR
  have : roB m F f k = false := by
    unfold roB
    refine allB_f hi ?_
    rw [decide_eq_false (by omega), decide_eq_false (by omega)]
    rfl
  rw [if_neg (by omega), this, Bool.and_false]
  rfl
theorem wkB_succ {n : Nat} {f : Nat → Int} {k : Nat} (h : wkB n f k = true) (h1 : inB n (f k) = true) (h2 : ∀ j, j < k → f j ≠ f k) : wkB n f (k + 1) = true := by
  have h0 := wkB_iff.1 h
  refine wkB_iff.2 (fun i hi => ?_)
  by_cases e : i = k
  · subst e
    exact ⟨inB_t.1 h1, h2⟩
  · exact h0 i (by omega)
theorem roB_succ_t {m : Nat} {F : Nat → Nat → Int} {f : Nat → Int} {k : Nat} (h : roB m F f k = true) (h1 : k = 0 ∨ 0 ≤ stR F (f (k - 1)) (f k) m) : roB m F f (k + 1) = true := by
  rw [roB_succ, h]
  rcases h1 with h1 | h1
  · simp [h1]
  · simp [h1]
set_option maxHeartbeats 4000000 in
set_option maxRecDepth 1000000 in
theorem refCost_any (A B : Option Addr) (m c n k cB : Nat) (F : Nat → Nat → Int) (f : Nat → Int) (w : World) (h : Recs 3 w A m F) (hI : Ints w B k f) (hok : okM n m F = true) (hk : k ≤ 9223372036854775807) (hkc : k ≤ cB) :
    Lr 39 #[.agg #[.int .i64 n, .slice A m c], .slice B k cB] w (.int .i64 (coR n m F f k)) := by
  unfold Lr
  obtain ⟨⟨hn1, hn8⟩, hm16, -⟩ := okM_iff.1 hok
  have hB1 := MapBR.new w n (.slice A m c)
  have hb1 := (Below.refl w.heap.size w).alloc (Nat.le_refl _) (.cells #[.int .i64 n, .slice A m c] 24)
  obtain ⟨W1, hW1⟩ : ∃ W1, W1 = w.alloc (.cells #[.int .i64 n, .slice A m c] 24) := ⟨_, rfl⟩
  rw [← hW1] at hB1 hb1
  have HWW : Hid (w.alloc (.cells #[.int .i64 n, .slice A m c] 24) = W1) := Lib.hid hW1.symm
  have HMB : Hid (∀ w', Below W1.heap.size W1 w' → MapBR w' w.heap.size n (.slice A m c) ∧ Below w.heap.size w w') := Lib.hid (fun w' hb => ⟨hB1.keep hb, hb1.trans (hb.mono hb1.size)⟩)
  have HIn := Lib.hid (fun w' (hb : Below W1.heap.size W1 w') => hI.keep (hb1.trans (hb.mono hb1.size)))
  have HSt := Lib.hid (fun (x y : Int) w' (hb : Below W1.heap.size W1 w') => step_any A m c n x y F w' (h.keep (hb1.trans (hb.mono hb1.size))) (by omega))
  have HCo := Lib.hid (fun k => wk_cost (f := f) hok k)
  have HRg := Lib.hid (fun (x y : Int) => stR_rng hok x y m (Nat.le_refl _))
  have HOut := Lib.hid (fun (i : Nat) (hi : i < k) => coR_out (n := n) (m := m) (F := F) (f := f) hi)
  have HNo := Lib.hid (fun (i : Nat) (hi : i < k) => coR_no (n := n) (m := m) (F := F) (f := f) hi)
  have HEnd : Hid (0 < k → wkB n f k = true → roB m F f k = true → coR n m F f k = coS m F f k) := Lib.hid (fun h0 h1 h2 => by
    unfold coR
    rw [if_neg (by omega), h1, h2]
    rfl)
  have HZ : Hid (k = 0 → coR n m F f k = -1) := Lib.hid (fun h0 => by
    unfold coR
    rw [if_pos h0])
  clear hB1 hb1 hW1 h hI hok hm16
  generalize coR n m F f k = CR at *
  go_enter Try.func39, Try.ntmps39
  go_wp2_with fail
  rw [HWW.out]
  clear HWW
  go_wp2
  go_loopw [5, 13] (fun s i wr => ∃ j : Nat, j ≤ k ∧ i = .int .i64 j ∧ s = .int .i64 (coS m F f j) ∧ wkB n f j = true ∧ roB m F f j = true ∧ Below W1.heap.size W1 wr) (fun _ i _ => k - (intOf i).toNat)
  case atStart => exact ⟨0, Nat.zero_le _, rfl, rfl, rfl, rfl, Below.refl _ _⟩
  case round =>
    obtain ⟨i, hi, rfl, rfl, hw, hr, hB⟩ := hrel
    have HW := Lib.hid hw
    have HR := Lib.hid hr
    have HBr := Lib.hid hB
    clear hw hr hB
    by_cases hlt : i < k
    · obtain ⟨b0, o0, rfl, hcf⟩ := (HIn.out wr HBr.out).at hlt
      have q0 := (HMB.out wr HBr.out).1.c0
      cases hin : inB n (f i) with
      | false =>
        have E := Lib.hid (HOut.out _ hlt (.inl hin))
        by_cases h1 : f i < 0
        · have d1 : decide (f i < 0) = true := decide_eq_true h1
          clear hin
          go_wp2
          go_ret
          exact ⟨ret_int E.out.symm, (HMB.out _ HBr.out).2⟩
        · have d1 : decide (f i < 0) = false := decide_eq_false h1
          have d2 : decide ((n : Int) ≤ f i) = true := decide_eq_true (by
            rcases Int.lt_or_le (f i) n with h | h
            · rw [inB_t.2 ⟨by omega, h⟩] at hin
              cases hin
            · exact h)
          clear hin
          go_wp2
          go_ret
          exact ⟨ret_int E.out.symm, (HMB.out _ HBr.out).2⟩
      | true =>
        obtain ⟨hx0, hxn⟩ := inB_t.1 hin
        have d1 : decide (f i < 0) = false := decide_eq_false (by omega)
        have d2 : decide ((n : Int) ≤ f i) = false := decide_eq_false (by omega)
        have HHas := Lib.hid (fun h => HOut.out _ hlt (.inr h))
        have HWs := Lib.hid (fun h => wkB_succ HW.out hin h)
        have HSi : Hid (∀ p, p ≤ i → ∃ s, True) := Lib.hid (fun _ _ => ⟨0, trivial⟩)
        clear hin HSi
        go_wp2
        go_loopw [30] (fun j wx => ∃ q : Nat, q ≤ i ∧ j = .int .i64 q ∧ (∀ p, p < q → f p ≠ f i) ∧ Dn wr wx) (fun j _ => i - (intOf j).toNat)
        case atStart => exact ⟨0, Nat.zero_le _, rfl, fun p hp => absurd hp (Nat.not_lt_zero _), Dn.refl _⟩
        case round =>
          obtain ⟨q, hq, rfl, hne, hD⟩ := hrel
          have HNe := Lib.hid hne
          have HD := Lib.hid hD
          have HBx := Lib.hid (HBr.out.trans (hD.below _))
          clear hne hD q0 hcf
          by_cases hlq : q < i
          · obtain ⟨b1, o1, e1, hcq⟩ := (HIn.out wr HBx.out).at (show q < k by omega)
            injection e1 with e1
            injection e1 with e1 e2
            subst e1 e2
            by_cases e : f i = f q
            · have hb := beq_t e
              have E := Lib.hid (HHas.out (hasW_iff.2 ⟨q, hlq, e.symm⟩))
              clear e
              go_wp2
              go_ret
              exact ⟨ret_int E.out.symm, (HMB.out _ HBx.out).2⟩
            · have hb := beq_f e
              have HNq := Lib.hid (show f q ≠ f i from fun h => e h.symm)
              clear e
              go_wp2
              go_roundw
              case rel => exact ⟨q + 1, by omega, by go_num, fun p hp => by
                by_cases e : p = q
                · rw [e]
                  exact HNq.out
                · exact HNe.out p (by omega), HD.out⟩
              case measure => simp [intOf]; omega
          · obtain rfl : q = i := by omega
            have HW1 := Lib.hid (HWs.out HNe.out)
            have hq8 : q + 1 ≤ n := wkB_le HW1.out
            by_cases h0 : q = 0
            · subst h0
              have HR1 := Lib.hid (roB_succ_t HR.out (.inl rfl))
              clear hq8
              go_wp2
              go_roundw
              case rel => exact ⟨1, by omega, by go_num, rfl, HW1.out, HR1.out, HBx.out⟩
              case measure => simp [intOf]; omega
            · have hd0 : decide (0 < (q : Int)) = true := decide_eq_true (by omega)
              obtain ⟨c1, c2⟩ : 0 ≤ coS m F f q ∧ coS m F f q ≤ 400 := by
                rcases HCo.out q HW.out with ⟨-, -, h1, h2⟩ | ⟨h, -⟩
                · omega
                · rw [HR.out] at h
                  cases h
              obtain ⟨b1, o1, e1, hcq⟩ := (HIn.out wr HBx.out).at (show q - 1 < k by omega)
              injection e1 with e1
              injection e1 with e1 e2
              subst e1 e2
              have q0 := (HMB.out wr HBx.out).1.c0
              have q1 := (HMB.out wr HBx.out).1.c1
              obtain ⟨g1, g2, -⟩ := HRg.out (f (q - 1)) (f q)
              have HNo' := Lib.hid (HNo.out _ hlt (by omega))
              have HStp := Lib.hid (fun w' hb => HSt.out (f (q - 1)) (f q) w' hb)
              have HRs := Lib.hid (fun h => roB_succ_t (f := f) HR.out (.inr h))
              have HCs : Hid (coS m F f (q + 1) = coS m F f q + stR F (f (q - 1)) (f q) m) := Lib.hid (by rw [coS, if_neg h0])
              have hq1 : (1 : Int) ≤ q := by omega
              have HStL := Lib.hid (fun (p : Later wr) => HSt.out (f (q - 1)) (f q) p.to (HBx.out.trans (p.below.mono HBx.out.size)))
              generalize stR F (f (q - 1)) (f q) m = sv at *
              generalize coS m F f q = cs at *
              generalize hfp : f (q - 1) = fp at *
              generalize f q = fq at *
              have hw : IntKind.i64.wrap (cs + sv) = cs + sv := IntWalk.i64_in _ ⟨by omega, by omega⟩
              go_wp2_with fail
              refine wp_region_later (by kernel_rfl) (by kernel_rfl) ?_
              have k0 : ∀ p : Later wr, p.to.cell? ⟨w.heap.size, 0, none⟩ = some (.int .i64 n) := fun p => p.cell q0
              have k1 : ∀ p : Later wr, p.to.cell? ⟨w.heap.size, 1, none⟩ = some (.slice A m c) := fun p => p.cell q1
              obtain ⟨r, hr⟩ : ∃ r, r = q - 1 := ⟨_, rfl⟩
              rw [← hr] at hcq
              have hrk : (r : Int) < k := by omega
              have hr0 : r < k := by omega
              have hw2 : IntKind.i64.wrap ((q : Int) - 1) = (r : Int) := (IntWalk.i64_in _ ⟨by omega, by omega⟩).trans (by omega)
              have k2 : ∀ p : Later wr, p.to.cell? ⟨b0, o0 + r, none⟩ = some (.int .i64 fp) := fun p => p.cell hcq
              clear q0 q1 hcq hr
              repeat
                (with_reducible refine wpQuiet_step ?_
                 intro K hK
                 go_simp
                 first
                   | (refine hK _ ?_; clear hK K)
                   | (apply Exists.intro
                      refine ⟨fun _ => ?_, hK _ ?_⟩
                      (go_at_call 35; exact Lr.later (HStL.out _))
                      clear hK K))
              with_reducible refine wpQuiet_nil ?_
              intro _ hw'
              obtain ⟨p, rfl⟩ := hw'
              have HBy := Lib.hid (HBx.out.trans (p.below.mono HBx.out.size))
              clear k0 k1 k2
              generalize p.to = wy at *
              by_cases hneg : sv < 0
              · have d3 : decide (sv < 0) = true := decide_eq_true hneg
                have E := Lib.hid (HNo'.out hneg)
                go_wp2
                go_ret
                exact ⟨ret_int E.out.symm, (HMB.out _ HBy.out).2⟩
              · have d3 : decide (sv < 0) = false := decide_eq_false hneg
                have HR1 := Lib.hid (HRs.out (by omega))
                go_wp2
                first
                  | exact ⟨⟨q + 1, by omega, by go_num, by rw [HCs.out], HW1.out, HR1.out, HBy.out⟩, by simp [intOf]; omega⟩
                  | (go_roundw
                     case rel => exact ⟨q + 1, by omega, by go_num, by rw [HCs.out], HW1.out, HR1.out, HBy.out⟩
                     case measure => simp [intOf]; omega)
    · obtain rfl : i = k := by omega
      by_cases h0 : i = 0
      · have E := Lib.hid (HZ.out h0)
        have hb : ((i : Int) == 0) = true := beq_t (by omega)
        clear h0
        go_wp2
        go_ret
        exact ⟨ret_int E.out.symm, (HMB.out _ HBr.out).2⟩
      · have E := Lib.hid (HEnd.out (by omega) HW.out HR.out)
        have hb : ((i : Int) == 0) = false := beq_f (by omega)
        go_wp2
        go_ret
        exact ⟨ret_int E.out.symm, (HMB.out _ HBr.out).2⟩
end Go.Proofs.Ytclhamemlpbpiaa
