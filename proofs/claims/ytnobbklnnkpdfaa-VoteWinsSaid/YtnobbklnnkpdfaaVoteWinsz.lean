/- The law VoteWins, walked. -/
import Derived.Test.YtnobbklnnkpdfaaLL
import Derived.Test.YtnobbklnnkpdfaaRR
import Derived.Test.YtnobbklnnkpdfaaRv
import Derived.Test.YtnobbklnnkpdfaaVg
import Derived.Test.YtnobbklnnkpdfaaAk
import Derived.Test.YtnobbklnnkpdfaaEq
namespace Go.Proofs.Ytnobbklnnkpdfaa
open Go.RowKit

theorem eqB_idW (n : Nat) (f : Nat → Int) : eqB n n f f = true := by
  simp only [eqB, decide_true, Bool.true_and]
  exact allB_t (fun g _ => by simp [eqP])
/-- The first with a property is one. -/
theorem first_uniq {α : Type} (P : α → Bool) : ∀ (p p' q q' : List α) (x x' : α), p ++ x :: q = p' ++ x' :: q' → (∀ y ∈ p, P y = false) → (∀ y ∈ p', P y = false) → P x = true → P x' = true → x = x' := by
  intro p
  induction p with
  | nil =>
    intro p' q q' x x' e _ h2 h3 _
    cases p' with
    | nil => injection e
    | cons y p' =>
      injection e with e1 e2
      rw [e1, h2 y (by simp)] at h3
      cases h3
  | cons y p ih =>
    intro p' q q' x x' e h1 h2 h3 h4
    cases p' with
    | nil =>
      injection e with e1 e2
      rw [← e1, h1 y (by simp)] at h4
      cases h4
    | cons y' p' =>
      injection e with e1 e2
      exact ih p' q q' x x' e2 (fun z hz => h1 z (List.mem_cons_of_mem _ hz)) (fun z hz => h2 z (List.mem_cons_of_mem _ hz)) h3 h4

set_option maxHeartbeats 2000000 in
set_option maxRecDepth 1000000 in
theorem voteWins_inv (A : Option Addr) (n c : Nat) (L : Nat → Nat) (v : Nat → Nat → Int) (q : Int) (w : World) (h : ArgR w A n c L v) (hok : okBal n L v = false) :
    Calls Try.prog 4 #[.slice A n c, .int .i64 q] w fun e w' => e = .returned (.bool true) ∧ Below w.heap.size w w' := by
  have H := Lib.hid h
  have HV : Hid (∀ w' : World, Below w.heap.size w w' → Ro 14 #[.slice A n c] w' (.bool (okBal n L v))) := Lib.hid (fun w' hb => validR_any A n c L v w' (H.out.below hb))
  have HQ : Hid (okBal n L v = false ∨ q < 0 ∨ 4 ≤ q) := Lib.hid (.inl hok)
  rw [hok] at HV
  clear hok
  clear h
  go_enter Try.func4, Try.ntmps4
  go_wp2_with fail
  refine (FewF A n c L v _ H.out).mono ?_
  rintro e w1 ⟨A1, k1, c1, rfl, hk1, hr1, hc1, hb1⟩
  have HK1 := Lib.hid hk1
  have HR1 := Lib.hid hr1
  have HC1 := Lib.hid hc1
  have Hb1 := Lib.hid (hb1)
  clear hk1 hr1 hc1 hb1
  go_wp2_with fail
  refine Lr.use (WinRFbad HR1.out HK1.out HC1.out HQ.out) ?_
  intro w2 hb2
  have Hb2 := Lib.hid (Hb1.out.trans (hb2.mono Hb1.out.size))
  clear hb2
  go_wp2_with fail
  refine (FewF A n c L v _ (H.out.below Hb2.out)).mono ?_
  rintro e w3 ⟨A3, k3, c3, rfl, hk3, hr3, hc3, hb3⟩
  have HK3 := Lib.hid hk3
  have HR3 := Lib.hid hr3
  have HC3 := Lib.hid hc3
  have Hb3 := Lib.hid (Hb2.out.trans (hb3.mono Hb2.out.size))
  clear hk3 hr3 hc3 hb3
  go_wp2_with fail
  refine Lr.use (LieFbad HR3.out HK3.out HC3.out HQ.out) ?_
  intro w4 hb4
  have Hb4 := Lib.hid (Hb3.out.trans (hb4.mono Hb3.out.size))
  clear hb4
  go_wp2_with fail
  refine Ro.use (HV.out _ Hb4.out) ?_
  intro w5 hd5
  have Hb5 := Lib.hid (Hb4.out.trans (hd5.below _))
  clear hd5
  go_wp2_with fail
  refine Lr.use (awake_any _) ?_
  intro w9 hb9
  have Hb9 := Lib.hid (Hb5.out.trans (hb9.mono Hb5.out.size))
  clear hb9
  go_wp2
  go_ret
  exact ⟨rfl, Hb9.out⟩

set_option maxHeartbeats 2000000 in
set_option maxRecDepth 1000000 in
theorem voteWins_low (A : Option Addr) (n c : Nat) (L : Nat → Nat) (v : Nat → Nat → Int) (q : Int) (w : World) (h : ArgR w A n c L v) (hok : okBal n L v = true) (hq : q < 0) :
    Calls Try.prog 4 #[.slice A n c, .int .i64 q] w fun e w' => e = .returned (.bool true) ∧ Below w.heap.size w w' := by
  have H := Lib.hid h
  have HV : Hid (∀ w' : World, Below w.heap.size w w' → Ro 14 #[.slice A n c] w' (.bool (okBal n L v))) := Lib.hid (fun w' hb => validR_any A n c L v w' (H.out.below hb))
  have HQ : Hid (okBal n L v = false ∨ q < 0 ∨ 4 ≤ q) := Lib.hid (.inr (.inl hq))
  have hd : decide (q < 0) = true := decide_eq_true hq
  rw [hok] at HV
  clear hok
  clear h
  go_enter Try.func4, Try.ntmps4
  go_wp2_with fail
  refine (FewF A n c L v _ H.out).mono ?_
  rintro e w1 ⟨A1, k1, c1, rfl, hk1, hr1, hc1, hb1⟩
  have HK1 := Lib.hid hk1
  have HR1 := Lib.hid hr1
  have HC1 := Lib.hid hc1
  have Hb1 := Lib.hid (hb1)
  clear hk1 hr1 hc1 hb1
  go_wp2_with fail
  refine Lr.use (WinRFbad HR1.out HK1.out HC1.out HQ.out) ?_
  intro w2 hb2
  have Hb2 := Lib.hid (Hb1.out.trans (hb2.mono Hb1.out.size))
  clear hb2
  go_wp2_with fail
  refine (FewF A n c L v _ (H.out.below Hb2.out)).mono ?_
  rintro e w3 ⟨A3, k3, c3, rfl, hk3, hr3, hc3, hb3⟩
  have HK3 := Lib.hid hk3
  have HR3 := Lib.hid hr3
  have HC3 := Lib.hid hc3
  have Hb3 := Lib.hid (Hb2.out.trans (hb3.mono Hb2.out.size))
  clear hk3 hr3 hc3 hb3
  go_wp2_with fail
  refine Lr.use (LieFbad HR3.out HK3.out HC3.out HQ.out) ?_
  intro w4 hb4
  have Hb4 := Lib.hid (Hb3.out.trans (hb4.mono Hb3.out.size))
  clear hb4
  go_wp2_with fail
  refine Ro.use (HV.out _ Hb4.out) ?_
  intro w5 hd5
  have Hb5 := Lib.hid (Hb4.out.trans (hd5.below _))
  clear hd5
  go_wp2_with fail
  refine Lr.use (awake_any _) ?_
  intro w9 hb9
  have Hb9 := Lib.hid (Hb5.out.trans (hb9.mono Hb5.out.size))
  clear hb9
  go_wp2
  go_ret
  exact ⟨rfl, Hb9.out⟩

set_option maxHeartbeats 2000000 in
set_option maxRecDepth 1000000 in
theorem voteWins_high (A : Option Addr) (n c : Nat) (L : Nat → Nat) (v : Nat → Nat → Int) (q : Int) (w : World) (h : ArgR w A n c L v) (hok : okBal n L v = true) (hq : 4 ≤ q) :
    Calls Try.prog 4 #[.slice A n c, .int .i64 q] w fun e w' => e = .returned (.bool true) ∧ Below w.heap.size w w' := by
  have H := Lib.hid h
  have HV : Hid (∀ w' : World, Below w.heap.size w w' → Ro 14 #[.slice A n c] w' (.bool (okBal n L v))) := Lib.hid (fun w' hb => validR_any A n c L v w' (H.out.below hb))
  have HQ : Hid (okBal n L v = false ∨ q < 0 ∨ 4 ≤ q) := Lib.hid (.inr (.inr hq))
  have hd : decide (q < 0) = false := decide_eq_false (by omega)
  have hd2 : decide (3 < q) = true := decide_eq_true (by omega)
  rw [hok] at HV
  clear hok
  clear h
  go_enter Try.func4, Try.ntmps4
  go_wp2_with fail
  refine (FewF A n c L v _ H.out).mono ?_
  rintro e w1 ⟨A1, k1, c1, rfl, hk1, hr1, hc1, hb1⟩
  have HK1 := Lib.hid hk1
  have HR1 := Lib.hid hr1
  have HC1 := Lib.hid hc1
  have Hb1 := Lib.hid (hb1)
  clear hk1 hr1 hc1 hb1
  go_wp2_with fail
  refine Lr.use (WinRFbad HR1.out HK1.out HC1.out HQ.out) ?_
  intro w2 hb2
  have Hb2 := Lib.hid (Hb1.out.trans (hb2.mono Hb1.out.size))
  clear hb2
  go_wp2_with fail
  refine (FewF A n c L v _ (H.out.below Hb2.out)).mono ?_
  rintro e w3 ⟨A3, k3, c3, rfl, hk3, hr3, hc3, hb3⟩
  have HK3 := Lib.hid hk3
  have HR3 := Lib.hid hr3
  have HC3 := Lib.hid hc3
  have Hb3 := Lib.hid (Hb2.out.trans (hb3.mono Hb2.out.size))
  clear hk3 hr3 hc3 hb3
  go_wp2_with fail
  refine Lr.use (LieFbad HR3.out HK3.out HC3.out HQ.out) ?_
  intro w4 hb4
  have Hb4 := Lib.hid (Hb3.out.trans (hb4.mono Hb3.out.size))
  clear hb4
  go_wp2_with fail
  refine Ro.use (HV.out _ Hb4.out) ?_
  intro w5 hd5
  have Hb5 := Lib.hid (Hb4.out.trans (hd5.below _))
  clear hd5
  go_wp2_with fail
  refine Lr.use (awake_any _) ?_
  intro w9 hb9
  have Hb9 := Lib.hid (Hb5.out.trans (hb9.mono Hb5.out.size))
  clear hb9
  go_wp2
  go_ret
  exact ⟨rfl, Hb9.out⟩

set_option maxHeartbeats 4000000 in
set_option maxRecDepth 1000000 in
theorem voteWins_ok (r : Nat) (hr : r < 4) (A : Option Addr) (n c : Nat) (L : Nat → Nat) (v : Nat → Nat → Int) (w : World) (h : ArgR w A n c L v) (hok : okBal n L v = true) :
    Calls Try.prog 4 #[.slice A n c, .int .i64 (r : Int)] w fun e w' => e = .returned (.bool true) ∧ Below w.heap.size w w' := by
  have H := Lib.hid h
  have HV : Hid (∀ w' : World, Below w.heap.size w w' → Ro 14 #[.slice A n c] w' (.bool (okBal n L v))) := Lib.hid (fun w' hb => validR_any A n c L v w' (H.out.below hb))
  have HOk := Lib.hid hok
  have hc1 : 1 ≤ L 0 := (okBal_iff.1 hok).2.1.1
  have hc5 : L 0 ≤ 5 := (okBal_iff.1 hok).2.1.2
  have hdl : decide ((r : Int) < 0) = false := decide_eq_false (by omega)
  have hdh : decide (3 < (r : Int)) = false := decide_eq_false (by omega)
  rw [hok] at HV
  clear hok h
  go_enter Try.func4, Try.ntmps4
  go_wp2_with fail
  refine (FewF A n c L v _ H.out).mono ?_
  rintro e w1 ⟨A1, k1, c1, rfl, hk1, hr1, hc1, hb1⟩
  have HK1 := Lib.hid hk1
  have HR1 := Lib.hid hr1
  have HC1 := Lib.hid hc1
  have Hb1 := Lib.hid (hb1)
  clear hk1 hr1 hc1 hb1
  go_wp2_with fail
  refine Lr.use (WinRF hr HR1.out HK1.out HC1.out HOk.out) ?_
  intro w2 hb2
  have Hb2 := Lib.hid (Hb1.out.trans (hb2.mono Hb1.out.size))
  clear hb2
  go_wp2_with fail
  refine (FewF A n c L v _ (H.out.below Hb2.out)).mono ?_
  rintro e w3 ⟨A3, k3, c3, rfl, hk3, hr3, hc3, hb3⟩
  have HK3 := Lib.hid hk3
  have HR3 := Lib.hid hr3
  have HC3 := Lib.hid hc3
  have Hb3 := Lib.hid (Hb2.out.trans (hb3.mono Hb2.out.size))
  clear hk3 hr3 hc3 hb3
  go_wp2_with fail
  refine (LieF hr HR3.out HK3.out HC3.out HOk.out).mono ?_
  rintro e w4 ⟨hL, hb4⟩
  have Hb4 := Lib.hid (Hb3.out.trans (hb4.mono Hb3.out.size))
  clear hb4 HR1 HR3 HK1 HK3 HC1 HC3
  rcases hL with ⟨u, x, p, t, g, hu, hno, hx, hp, hgain, rfl, hg, hrow⟩ | ⟨hno, rfl⟩
  · have HRow := Lib.hid hrow
    have HF := Lib.hid (And.intro hno (And.intro hx (And.intro hp hgain)))
    clear hno hx hp hgain hrow
    go_wp2_with fail
    refine Ro.use (HV.out _ Hb4.out) ?_
    intro w5 hd5
    have Hb5 := Lib.hid (Hb4.out.trans (hd5.below _))
    have HRow5 := Lib.hid (HRow.out.dn hd5)
    clear hd5 HRow
    go_wp2_with fail
    refine (lieR_any r hr A n c L v _ (H.out.below Hb5.out) HOk.out).mono ?_
    rintro e w6 ⟨hL6, hb6⟩
    have Hb6 := Lib.hid (Hb5.out.trans (hb6.mono Hb5.out.size))
    have HRow6 := Lib.hid (HRow5.out.keep hb6)
    clear hb6 HRow5
    rcases hL6 with ⟨u', x', p', t', A', c', hu', hno', hx', hp', hgain', rfl, hI'⟩ | ⟨hno', rfl⟩
    rotate_left
    · exfalso
      have := hno' u hu x (by rw [HF.out.2.1]; simp)
      rw [HF.out.2.2.2] at this
      cases this
    have euu : u' = u := by
      rcases Nat.lt_trichotomy u' u with hl | hl | hl
      · have := HF.out.1 u' hl x' (by rw [hx']; simp)
        rw [hgain'] at this
        cases this
      · exact hl
      · have := hno' u hl x (by rw [HF.out.2.1]; simp)
        rw [HF.out.2.2.2] at this
        cases this
    subst euu
    have exx : x' = x := first_uniq (gainB r n (L 0) v u') p' p t' t x' x (by rw [← hx', ← HF.out.2.1]) hp' HF.out.2.2.1 hgain' HF.out.2.2.2
    subst exx
    have HI6 := Lib.hid hI'
    have HWn : ∀ W, Below w6.heap.size w6 W → Hid (Lr 18 #[.slice A n c, .int .i64 (r : Int)] W (.int .i64 ((winF r n (L 0) v : Nat) : Int))) := fun W hW => Lib.hid (winR_any r hr A n c L v W (H.out.below (Hb6.out.trans (hW.mono Hb6.out.size))) HOk.out)
    have HEq : ∀ W, Below w6.heap.size w6 W → Hid (Ro 19 #[.slice (some ⟨g, 0, none⟩) (L 0) (L 0), .slice A' (L 0) c'] W (.bool true)) := fun W hW => Lib.hid (by
      have := equal_any (some ⟨g, 0, none⟩) A' (L 0) (L 0) (L 0) c' (rowF x') (rowF x') W (HRow6.out.ints.keep hW) (HI6.out.keep hW) (by omega) (by omega)
      rw [eqB_idW] at this
      exact this)
    clear hno' hx' hp' hgain' hI' HF HI6 HRow6
    generalize winF r n (L 0) v = z at *
    have hzz := beq_t (rfl : (z : Int) = (z : Int))
    have huu := beq_t (rfl : (u' : Int) = (u' : Int))
    go_wp2_with fail
    refine Lr.use (HWn _ (Below.refl _ _)).out ?_
    intro w7 hb7
    have HE7 := HEq _ hb7
    have Hb7 := Lib.hid (Hb6.out.trans (hb7.mono Hb6.out.size))
    clear hb7 HWn HEq
    go_wp2_with fail
    refine Ro.use HE7.out ?_
    intro w8 hd8
    have Hb8 := Lib.hid (Hb7.out.trans (hd8.below _))
    clear hd8 HE7
    go_wp2_with fail
    refine Lr.use (awake_any _) ?_
    intro w9 hb9
    have Hb9 := Lib.hid (Hb8.out.trans (hb9.mono Hb8.out.size))
    clear hb9
    go_wp2
    go_ret
    exact ⟨rfl, Hb9.out⟩
  · have HNo := Lib.hid hno
    clear hno
    go_wp2_with fail
    refine Ro.use (HV.out _ Hb4.out) ?_
    intro w5 hd5
    have Hb5 := Lib.hid (Hb4.out.trans (hd5.below _))
    clear hd5
    go_wp2_with fail
    refine (lieR_any r hr A n c L v _ (H.out.below Hb5.out) HOk.out).mono ?_
    rintro e w6 ⟨hL6, hb6⟩
    have Hb6 := Lib.hid (Hb5.out.trans (hb6.mono Hb5.out.size))
    clear hb6
    rcases hL6 with ⟨u', x', p', t', A', c', hu', hno', hx', hp', hgain', rfl, hI'⟩ | ⟨hno', rfl⟩
    · exfalso
      have := HNo.out u' hu' x' (by rw [hx']; simp)
      rw [hgain'] at this
      cases this
    have HWn : ∀ W, Below w6.heap.size w6 W → Hid (Lr 18 #[.slice A n c, .int .i64 (r : Int)] W (.int .i64 ((winF r n (L 0) v : Nat) : Int))) := fun W hW => Lib.hid (winR_any r hr A n c L v W (H.out.below (Hb6.out.trans (hW.mono Hb6.out.size))) HOk.out)
    have HEq : ∀ W, Below w6.heap.size w6 W → Hid (Ro 19 #[.slice none 0 0, .slice none 0 0] W (.bool true)) := fun W hW => Lib.hid (by
      have := equal_any none none 0 0 0 0 (fun _ => 0) (fun _ => 0) W Ints.zero Ints.zero (by omega) (by omega)
      rw [eqB_idW] at this
      exact this)
    clear hno' HNo
    generalize winF r n (L 0) v = z at *
    have hzz := beq_t (rfl : (z : Int) = (z : Int))
    go_wp2_with fail
    refine Lr.use (HWn _ (Below.refl _ _)).out ?_
    intro w7 hb7
    have HE7 := HEq _ hb7
    have Hb7 := Lib.hid (Hb6.out.trans (hb7.mono Hb6.out.size))
    clear hb7 HWn HEq
    go_wp2_with fail
    refine Ro.use HE7.out ?_
    intro w8 hd8
    have Hb8 := Lib.hid (Hb7.out.trans (hd8.below _))
    clear hd8 HE7
    go_wp2_with fail
    refine Lr.use (awake_any _) ?_
    intro w9 hb9
    have Hb9 := Lib.hid (Hb8.out.trans (hb9.mono Hb8.out.size))
    clear hb9
    go_wp2
    go_ret
    exact ⟨rfl, Hb9.out⟩
theorem voteWins_walk (A : Option Addr) (n c : Nat) (L : Nat → Nat) (v : Nat → Nat → Int) (q : Int) (w : World) (h : ArgR w A n c L v) (_hq : (Lit.int .i64 q).wf = true) :
    Calls Try.prog 4 #[.slice A n c, .int .i64 q] w fun e w' => e = .returned (.bool true) ∧ Below w.heap.size w w' := by
  cases hok : okBal n L v with
  | false => exact voteWins_inv A n c L v q w h hok
  | true =>
    by_cases h0 : q < 0
    · exact voteWins_low A n c L v q w h hok h0
    · by_cases h4 : 4 ≤ q
      · exact voteWins_high A n c L v q w h hok h4
      · obtain ⟨r, rfl⟩ : ∃ r : Nat, q = (r : Int) := ⟨q.toNat, by omega⟩
        exact voteWins_ok r (by omega) A n c L v w h hok
end Go.Proofs.Ytnobbklnnkpdfaa

