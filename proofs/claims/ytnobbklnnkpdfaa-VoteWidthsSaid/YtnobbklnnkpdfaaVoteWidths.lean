/- The law VoteWidths, walked. -/
import Derived.Test.YtnobbklnnkpdfaaPg
import Derived.Test.YtnobbklnnkpdfaaRp
import Derived.Test.YtnobbklnnkpdfaaRt
import Derived.Test.YtnobbklnnkpdfaaRq
import Derived.Test.YtnobbklnnkpdfaaEq
import Derived.Test.YtnobbklnnkpdfaaRv
import Derived.Test.YtnobbklnnkpdfaaVg
import Derived.Test.YtnobbklnnkpdfaaAk
namespace Go.Proofs.Ytnobbklnnkpdfaa
open Go.RowKit

theorem eqB_idY (n : Nat) (f : Nat → Int) : eqB n n f f = true := by
  simp only [eqB, decide_true, Bool.true_and]
  exact allB_t (fun g _ => by simp [eqP])

set_option maxHeartbeats 4000000 in
set_option maxRecDepth 1000000 in
theorem voteWidths_bad (A : Option Addr) (n c : Nat) (L : Nat → Nat) (v : Nat → Nat → Int) (qa qb : Int) (w : World) (h : ArgR w A n c L v) (hok : okBal n L v = false) :
    Calls Try.prog 6 #[.slice A n c, .int .i64 qa, .int .i64 qb] w fun e w' => e = .returned (.bool true) ∧ Below w.heap.size w w' := by
  have H := Lib.hid h
  have HK := Lib.hid hok
  have HV : Hid (∀ w' : World, Below w.heap.size w w' → Ro 14 #[.slice A n c] w' (.bool (okBal n L v))) := Lib.hid (fun w' hb => validR_any A n c L v w' (H.out.below hb))
  rw [hok] at HV
  clear h hok
  go_enter Try.func6, Try.ntmps6
  go_wp2_with fail
  refine (FewF A n c L v _ H.out).mono ?_
  rintro e w1 ⟨A1, k1, c1, rfl, hk1, hr1, hc1, hb1⟩
  have HK1 := Lib.hid hk1
  have HR1 := Lib.hid hr1
  have HC1 := Lib.hid hc1
  have HB1 := Lib.hid hb1
  have Hb1 := Lib.hid (hb1)
  clear hk1 hr1 hc1 hb1
  go_wp2_with fail
  refine Lr.use (WidthsFbad HR1.out HK1.out HK.out) ?_
  intro w2 hb2
  have Hb2 := Lib.hid (Hb1.out.trans (hb2.mono Hb1.out.size))
  clear hb2
  go_wp2_with fail
  refine (FewF A n c L v _ (H.out.below Hb2.out)).mono ?_
  rintro e w3 ⟨A3, k3, c3, rfl, hk3, hr3, hc3, hb3⟩
  have HK3 := Lib.hid hk3
  have HR3 := Lib.hid hr3
  have HC3 := Lib.hid hc3
  have HB3 := Lib.hid hb3
  have Hb3 := Lib.hid (Hb2.out.trans (hb3.mono Hb2.out.size))
  clear hk3 hr3 hc3 hb3
  go_wp2_with fail
  refine Lr.use (PathFbad HR3.out HK3.out HC3.out (.inl HK.out)) ?_
  intro w4 hb4
  have Hb4 := Lib.hid (Hb3.out.trans (hb4.mono Hb3.out.size))
  clear hb4
  go_wp2_with fail
  refine Ro.use (HV.out _ Hb4.out) ?_
  intro w5 hd5
  have Hb5 := Lib.hid (Hb4.out.trans (hd5.below _))
  clear hd5
  go_wp2_with fail
  refine Lr.use (awake_any _) ?_
  intro w9 hb9
  have Hb9 := Lib.hid (Hb5.out.trans (hb9.mono Hb5.out.size))
  clear hb9
  go_wp2
  go_ret
  exact ⟨rfl, Hb9.out⟩

set_option maxHeartbeats 4000000 in
set_option maxRecDepth 1000000 in
theorem voteWidths_arg (A : Option Addr) (n c : Nat) (L : Nat → Nat) (v : Nat → Nat → Int) (qa qb : Int) (w : World) (h : ArgR w A n c L v) (hok : okBal n L v = true) (hq : qa = qb ∨ qa < 0 ∨ qb < 0 ∨ (L 0 : Int) ≤ qa ∨ (L 0 : Int) ≤ qb) :
    Calls Try.prog 6 #[.slice A n c, .int .i64 qa, .int .i64 qb] w fun e w' => e = .returned (.bool true) ∧ Below w.heap.size w w' := by
  have HQ : Hid (qa < 0 ∨ (L 0 : Int) ≤ qa ∨ qb < 0 ∨ (L 0 : Int) ≤ qb ∨ qa = qb) := Lib.hid (by omega)
  have H := Lib.hid h
  have HK := Lib.hid hok
  have hB := okBal_iff.1 hok
  have hB2 : 1 ≤ L 0 := hB.2.1.1
  have hB3 : L 0 ≤ 5 := hB.2.1.2
  have hBn : 1 ≤ n := hB.1.1
  have hdia := (wT_cls (T := mAll v (L 0) n) hB3 (mAll_dia hok) (L 0) (Nat.le_refl _)).dia
  have HDi : Hid (∀ i k, i < L 0 → k < L 0 → wT (L 0) (mAll v (L 0) n) (L 0) (5 * i + k) = if i = k then 0 else wT (L 0) (mAll v (L 0) n) (L 0) (5 * i + k)) := Lib.hid (fun i k hi hk => by
    by_cases e : i = k
    · rw [if_pos e, ← e]; exact hdia i hi
    · rw [if_neg e])
  have HV : Hid (∀ w' : World, Below w.heap.size w w' → Ro 14 #[.slice A n c] w' (.bool (okBal n L v))) := Lib.hid (fun w' hb => validR_any A n c L v w' (H.out.below hb))
  rw [hok] at HV
  obtain ⟨b0, o0, A0, c0, eA0, hc0, -⟩ := h.at (show 0 < n by omega)
  have hc0 : w.cell? ⟨b0, o0, none⟩ = some (.slice A0 (L 0) c0) := hc0
  have hlt0 := World.block_lt_of_cell? _ _ hc0
  have hnI : (0 : Int) < (n : Int) := by omega
  have hnN : 0 < n := by omega
  subst eA0
  clear h hok hB hdia
  go_enter Try.func6, Try.ntmps6
  go_wp2_with fail
  refine (FewF _ n c L v _ H.out).mono ?_
  rintro e w1 ⟨A1, k1, c1, rfl, hk1, hr1, hc1, hb1⟩
  have HK1 := Lib.hid hk1
  have HR1 := Lib.hid hr1
  have HC1 := Lib.hid hc1
  have HB1 := Lib.hid hb1
  have Hb1 := Lib.hid (hb1)
  clear hk1 hr1 hc1 hb1
  go_wp2_with fail
  refine (WidthsF HR1.out HK1.out HC1.out HK.out).mono ?_
  rintro e w2 ⟨A2, c2, rfl, hr2, hb2⟩
  have HX2 := Lib.hid hr2
  have Hb2 := Lib.hid (Hb1.out.trans (hb2.mono Hb1.out.size))
  clear hb2 hr2
  go_wp2_with fail
  refine (FewF _ n c L v _ (H.out.below Hb2.out)).mono ?_
  rintro e w3 ⟨A3, k3, c3, rfl, hk3, hr3, hc3, hb3⟩
  have HK3 := Lib.hid hk3
  have HR3 := Lib.hid hr3
  have HC3 := Lib.hid hc3
  have HB3 := Lib.hid hb3
  have Hb3 := Lib.hid (Hb2.out.trans (hb3.mono Hb2.out.size))
  clear hk3 hr3 hc3 hb3
  have HX3 := Lib.hid (HX2.out.keep HB3.out)
  clear HX2 HB1 HB3 HR1 HK1 HC1
  go_wp2_with fail
  refine Lr.use (PathFbad HR3.out HK3.out HC3.out (.inr HQ.out)) ?_
  intro w4 hb4
  have HX4 := Lib.hid (HX3.out.keep hb4)
  have Hb4 := Lib.hid (Hb3.out.trans (hb4.mono Hb3.out.size))
  clear hb4 HX3 HR3 HK3 HC3
  go_wp2_with fail
  refine Ro.use (HV.out _ Hb4.out) ?_
  intro w5 hd5
  have Hb5 := Lib.hid (Hb4.out.trans (hd5.below _))
  have HX5 := Lib.hid (HX4.out.dn hd5)
  clear hd5 HX4
  go_wp2_with fail
  refine (rWidths_any _ n c L v _ (H.out.below Hb5.out) HK.out).mono ?_
  rintro e w6 ⟨xw, rfl, hxw, hb6⟩
  obtain ⟨A6, c6, rfl, hrw, -⟩ := hxw.rows
  have HX6 := Lib.hid (HX5.out.keep hb6)
  have HY6 := Lib.hid hrw
  have Hb6 := Lib.hid (Hb5.out.trans (hb6.mono Hb5.out.size))
  clear hb6 hxw hrw HX5
  have HSm := Lib.hid (same_any A2 A6 (L 0) c2 c6 (fun _ => L 0) (fun i k => if i = k then 0 else wT (L 0) (mAll v (L 0) n) (L 0) (5 * i + k)) w6 (HX6.out.congrV (fun i k hi hk => HDi.out i k hi hk)) HY6.out (by omega) (fun i hi => by omega))
  go_wp2_with fail
  refine Ro.use HSm.out ?_
  intro w7 hd7
  have Hb7 := Lib.hid (Hb6.out.trans (hd7.below _))
  clear hd7 HSm HX6 HY6
  go_wp2_with fail
  refine Lr.use (awake_any _) ?_
  intro w8 hb8
  have Hb8 := Lib.hid (Hb7.out.trans (hb8.mono Hb7.out.size))
  clear hb8
  have hc8 : w8.cell? ⟨b0, o0, none⟩ = some (.slice A0 (L 0) c0) := (Hb8.out.cell hlt0).trans hc0
  by_cases k0 : qa = qb
  · have t0 := beq_t k0
    clear hq k0
    go_wp2
    go_ret
    exact ⟨rfl, Hb8.out⟩
  · have t0 := beq_f k0
    by_cases k1 : qa < 0
    · have t1 : decide (qa < 0) = true := decide_eq_true k1
      clear hq k1
      go_wp2
      go_ret
      exact ⟨rfl, Hb8.out⟩
    · have t1 : decide (qa < 0) = false := decide_eq_false k1
      by_cases k2 : qb < 0
      · have t2 : decide (qb < 0) = true := decide_eq_true k2
        clear hq k2
        go_wp2
        go_ret
        exact ⟨rfl, Hb8.out⟩
      · have t2 : decide (qb < 0) = false := decide_eq_false k2
        by_cases k3 : (L 0 : Int) ≤ qa
        · have t3 : decide ((L 0 : Int) ≤ qa) = true := decide_eq_true k3
          clear hq k3
          go_wp2
          go_ret
          exact ⟨rfl, Hb8.out⟩
        · have t3 : decide ((L 0 : Int) ≤ qa) = false := decide_eq_false k3
          have t4 : decide ((L 0 : Int) ≤ qb) = true := decide_eq_true (by omega)
          clear hq
          go_wp2
          go_ret
          exact ⟨rfl, Hb8.out⟩

set_option maxHeartbeats 4000000 in
set_option maxRecDepth 1000000 in
theorem voteWidths_ok (a b : Nat) (A : Option Addr) (n c : Nat) (L : Nat → Nat) (v : Nat → Nat → Int) (w : World) (h : ArgR w A n c L v) (hok : okBal n L v = true) (ha : a < L 0) (hb : b < L 0) (hab : a ≠ b) :
    Calls Try.prog 6 #[.slice A n c, .int .i64 (a : Int), .int .i64 (b : Int)] w fun e w' => e = .returned (.bool true) ∧ Below w.heap.size w w' := by
  have H := Lib.hid h
  have HK := Lib.hid hok
  have hB := okBal_iff.1 hok
  have hB2 : 1 ≤ L 0 := hB.2.1.1
  have hB3 : L 0 ≤ 5 := hB.2.1.2
  have hBn : 1 ≤ n := hB.1.1
  have hdia := (wT_cls (T := mAll v (L 0) n) hB3 (mAll_dia hok) (L 0) (Nat.le_refl _)).dia
  have HDi : Hid (∀ i k, i < L 0 → k < L 0 → wT (L 0) (mAll v (L 0) n) (L 0) (5 * i + k) = if i = k then 0 else wT (L 0) (mAll v (L 0) n) (L 0) (5 * i + k)) := Lib.hid (fun i k hi hk => by
    by_cases e : i = k
    · rw [if_pos e, ← e]; exact hdia i hi
    · rw [if_neg e])
  have HV : Hid (∀ w' : World, Below w.heap.size w w' → Ro 14 #[.slice A n c] w' (.bool (okBal n L v))) := Lib.hid (fun w' hb => validR_any A n c L v w' (H.out.below hb))
  rw [hok] at HV
  obtain ⟨b0, o0, A0, c0, eA0, hc0, -⟩ := h.at (show 0 < n by omega)
  have hc0 : w.cell? ⟨b0, o0, none⟩ = some (.slice A0 (L 0) c0) := hc0
  have hlt0 := World.block_lt_of_cell? _ _ hc0
  have hnI : (0 : Int) < (n : Int) := by omega
  have hnN : 0 < n := by omega
  subst eA0
  clear h hok hB hdia
  go_enter Try.func6, Try.ntmps6
  go_wp2_with fail
  refine (FewF _ n c L v _ H.out).mono ?_
  rintro e w1 ⟨A1, k1, c1, rfl, hk1, hr1, hc1, hb1⟩
  have HK1 := Lib.hid hk1
  have HR1 := Lib.hid hr1
  have HC1 := Lib.hid hc1
  have HB1 := Lib.hid hb1
  have Hb1 := Lib.hid (hb1)
  clear hk1 hr1 hc1 hb1
  go_wp2_with fail
  refine (WidthsF HR1.out HK1.out HC1.out HK.out).mono ?_
  rintro e w2 ⟨A2, c2, rfl, hr2, hb2⟩
  have HX2 := Lib.hid hr2
  have Hb2 := Lib.hid (Hb1.out.trans (hb2.mono Hb1.out.size))
  clear hb2 hr2
  go_wp2_with fail
  refine (FewF _ n c L v _ (H.out.below Hb2.out)).mono ?_
  rintro e w3 ⟨A3, k3, c3, rfl, hk3, hr3, hc3, hb3⟩
  have HK3 := Lib.hid hk3
  have HR3 := Lib.hid hr3
  have HC3 := Lib.hid hc3
  have HB3 := Lib.hid hb3
  have Hb3 := Lib.hid (Hb2.out.trans (hb3.mono Hb2.out.size))
  clear hk3 hr3 hc3 hb3
  have HX3 := Lib.hid (HX2.out.keep HB3.out)
  clear HX2 HB1 HB3 HR1 HK1 HC1
  go_wp2_with fail
  refine (PathF HR3.out HK3.out HC3.out HK.out ha hb hab).mono ?_
  rintro e w4 ⟨s, p, x, q, g, cap, hs2, e1, e2, e3, e4, rfl, hrc, hb4⟩
  have HX4 := Lib.hid (HX3.out.keep hb4)
  have HP4 := Lib.hid hrc
  have Hb4 := Lib.hid (Hb3.out.trans (hb4.mono Hb3.out.size))
  have HF := Lib.hid (And.intro e1 (And.intro e2 (And.intro e3 e4)))
  clear hb4 HX3 HR3 HK3 HC3 hrc e1 e2 e3 e4
  go_wp2_with fail
  refine Ro.use (HV.out _ Hb4.out) ?_
  intro w5 hd5
  have Hb5 := Lib.hid (Hb4.out.trans (hd5.below _))
  have HX5 := Lib.hid (HX4.out.dn hd5)
  have HP5 := Lib.hid (HP4.out.dn hd5)
  clear hd5 HX4
  go_wp2_with fail
  refine (rWidths_any _ n c L v _ (H.out.below Hb5.out) HK.out).mono ?_
  rintro e w6 ⟨xw, rfl, hxw, hb6⟩
  obtain ⟨A6, c6, rfl, hrw, -⟩ := hxw.rows
  have HX6 := Lib.hid (HX5.out.keep hb6)
  have HY6 := Lib.hid hrw
  have Hb6 := Lib.hid (Hb5.out.trans (hb6.mono Hb5.out.size))
  have HP6 := Lib.hid (HP5.out.keep hb6)
  clear hb6 hxw hrw HX5
  have HSm := Lib.hid (same_any A2 A6 (L 0) c2 c6 (fun _ => L 0) (fun i k => if i = k then 0 else wT (L 0) (mAll v (L 0) n) (L 0) (5 * i + k)) w6 (HX6.out.congrV (fun i k hi hk => HDi.out i k hi hk)) HY6.out (by omega) (fun i hi => by omega))
  go_wp2_with fail
  refine Ro.use HSm.out ?_
  intro w7 hd7
  have Hb7 := Lib.hid (Hb6.out.trans (hd7.below _))
  have HP7 := Lib.hid (HP6.out.dn hd7)
  clear hd7 HSm HX6 HY6
  go_wp2_with fail
  refine Lr.use (awake_any _) ?_
  intro w8 hb8
  have Hb8 := Lib.hid (Hb7.out.trans (hb8.mono Hb7.out.size))
  have HP8 := Lib.hid (HP7.out.keep hb8)
  clear hb8
  have hc8 : w8.cell? ⟨b0, o0, none⟩ = some (.slice A0 (L 0) c0) := (Hb8.out.cell hlt0).trans hc0
  have t0 := beq_f (fun e => hab (by omega) : ¬ (a : Int) = (b : Int))
  have t1 : decide ((a : Int) < 0) = false := decide_eq_false (by omega)
  have t2 : decide ((b : Int) < 0) = false := decide_eq_false (by omega)
  have t3 : decide (((L 0 : Nat) : Int) ≤ (a : Int)) = false := decide_eq_false (by omega)
  have t3' : decide (L 0 ≤ a) = false := decide_eq_false (by omega)
  have t4 : decide (((L 0 : Nat) : Int) ≤ (b : Int)) = false := decide_eq_false (by omega)
  have t4' : decide (L 0 ≤ b) = false := decide_eq_false (by omega)
  go_wp2_with fail
  refine (pathR_any _ n c a b L v _ (H.out.below Hb8.out) HK.out ha hb hab).mono ?_
  rintro e w9 ⟨s', p', x', q', A', c', -, k1, k2, k3, k4, rfl, hI, hb9⟩
  obtain ⟨es, ex⟩ := path_same ha hb hab HF.out.1 HF.out.2.1 HF.out.2.2.1 HF.out.2.2.2 k1 k2 k3 k4
  subst es
  rw [ex] at hI
  have Hb9 := Lib.hid (Hb8.out.trans (hb9.mono Hb8.out.size))
  have HEq : Hid (Ro 19 #[.slice (some ⟨g, 0, none⟩) (s' + 2) cap, .slice A' (s' + 2) c'] w9 (.bool true)) := Lib.hid (by
    have := equal_any (some ⟨g, 0, none⟩) A' (s' + 2) (s' + 2) cap c' (rowF (pthL a b x)) (rowF (pthL a b x)) w9 (HP8.out.keep hb9).ints hI (by omega) (by omega)
    rwa [eqB_idY] at this)
  clear k1 k2 k3 k4 hI hb9 HF HP8 ex
  go_wp2_with fail
  refine Ro.use HEq.out ?_
  intro w10 hd10
  have Hb10 := Lib.hid (Hb9.out.trans (hd10.below _))
  clear hd10 HEq
  go_wp2
  go_ret
  exact ⟨rfl, Hb10.out⟩
theorem voteWidths_walk (A : Option Addr) (n c : Nat) (L : Nat → Nat) (v : Nat → Nat → Int) (qa qb : Int) (w : World) (h : ArgR w A n c L v) (_ha : (Lit.int .i64 qa).wf = true) (_hb : (Lit.int .i64 qb).wf = true) :
    Calls Try.prog 6 #[.slice A n c, .int .i64 qa, .int .i64 qb] w fun e w' => e = .returned (.bool true) ∧ Below w.heap.size w w' := by
  cases hok : okBal n L v with
  | false => exact voteWidths_bad A n c L v qa qb w h hok
  | true =>
    by_cases hq : qa = qb ∨ qa < 0 ∨ qb < 0 ∨ (L 0 : Int) ≤ qa ∨ (L 0 : Int) ≤ qb
    · exact voteWidths_arg A n c L v qa qb w h hok hq
    · obtain ⟨a, rfl⟩ : ∃ a : Nat, qa = (a : Int) := ⟨qa.toNat, by omega⟩
      obtain ⟨b, rfl⟩ : ∃ b : Nat, qb = (b : Int) := ⟨qb.toNat, by omega⟩
      exact voteWidths_ok a b A n c L v w h hok (by omega) (by omega) (by omega)
end Go.Proofs.Ytnobbklnnkpdfaa
