/- The reference's InCore. -/
import Derived.Test.YtgdlkmgdljcgnaaDoorGn
namespace Go.Proofs.YtgdlkmgdljcgnaaDoor
open Go.RowKit

/-- What a set pays, as the fraction that it is. -/
def pA (F : Nat → Nat → Int) (s n : Nat) : Int := rN (pyS F s n) wholeI
def pB (F : Nat → Nat → Int) (s n : Nat) : Int := rD (pyS F s n) wholeI
theorem PyI.same {F : Nat → Nat → Int} {s n : Nat} {a b : Int} (h : PyI F s n a b) : a = pA F s n ∧ b = pB F s n := by
  have hW : wholeI ≠ 0 := by unfold wholeI; decide
  refine low_ext h.low (r_low hW) ?_
  show a * rD (pyS F s n) wholeI = rN (pyS F s n) wholeI * b
  have h1 := rN_cross (a := pyS F s n) hW
  have h2 := cntF_mul (n := a) h.dvd
  rw [h.cnt] at h2
  have : a * rD (pyS F s n) wholeI * wholeI = rN (pyS F s n) wholeI * b * wholeI := by
    calc a * rD (pyS F s n) wholeI * wholeI = a * wholeI * rD (pyS F s n) wholeI := by ac_rfl
      _ = pyS F s n * b * rD (pyS F s n) wholeI := by rw [h2]
      _ = pyS F s n * rD (pyS F s n) wholeI * b := by ac_rfl
      _ = rN (pyS F s n) wholeI * wholeI * b := by rw [h1]
      _ = rN (pyS F s n) wholeI * b * wholeI := by ac_rfl
  exact Int.eq_of_mul_eq_mul_right hW this
theorem pays_inv (F : Nat → Nat → Int) (s : Nat) : ∀ n, (∀ k, k < n → pyOne (F k 0) (F k 1) = true) → ∃ a b, PyI F s n a b := by
  intro n
  induction n with
  | zero => intro _; exact ⟨0, 1, PyI.zero F s⟩
  | succ n ih =>
    intro h
    obtain ⟨a, b, hi⟩ := ih (fun k hk => h k (by omega))
    cases hb : inS s n with
    | false => exact ⟨a, b, hi.skip hb⟩
    | true => exact ⟨_, _, hi.add hb (h n (by omega))⟩
theorem pA_inv {F : Nat → Nat → Int} {n : Nat} (h : pyAll F n = true) (s : Nat) : PyI F s n (pA F s n) (pB F s n) := by
  obtain ⟨a, b, hi⟩ := pays_inv F s n (allB_iff.1 h)
  have := hi.same
  rw [← this.1, ← this.2]
  exact hi
theorem pays_lr (B : Option Addr) (n c' s : Nat) (F : Nat → Nat → Int) (w : World) (hf : Recs 2 w B n F) (hn : n ≤ 4) (hp : pyAll F n = true) :
    Lr 33 #[.slice B n c', .int .i64 s] w (.agg #[.int .i64 (pA F s n), .int .i64 (pB F s n)]) :=
  (pays_any B n c' s F w hf hn hp).mono fun _ _ ⟨a, b, h1, h2, h3⟩ => ⟨by rw [h1, h2.same.1, h2.same.2], h3⟩
theorem cnt_one (x : Int) : cntF wholeI x 1 = x * wholeI := by unfold cntF; rw [Int.ediv_one]
theorem whole_pos : 0 < wholeI := by unfold wholeI; decide
/-- A set pays more than its cost. -/
theorem ls_ex {F : Nat → Nat → Int} {n : Nat} (h : pyAll F n = true) (C : Nat → Int) (s : Nat) : lsB (C s) 1 (pA F s n) (pB F s n) = decide (0 < exS n C F s) := by
  have hi := pA_inv h s
  have := cnt_less (W := wholeI) (a := C s) (b := 1) (c := pA F s n) (d := pB F s n) whole_pos (by omega) hi.low.1 (Int.one_dvd _) hi.dvd
  rw [cnt_one, hi.cnt] at this
  unfold lsB exS
  rw [Bool.eq_iff_iff, decide_eq_true_iff, decide_eq_true_iff, this]
  omega
/-- All pay just the cost of all. -/
theorem eq_ex {F : Nat → Nat → Int} {n : Nat} (h : pyAll F n = true) (C : Nat → Int) (s : Nat) : (decide (pA F s n = C s) && decide (pB F s n = 1)) = decide (exS n C F s = 0) := by
  have hi := pA_inv h s
  rw [Bool.eq_iff_iff, Bool.and_eq_true, decide_eq_true_iff, decide_eq_true_iff, decide_eq_true_iff]
  unfold exS
  constructor
  · rintro ⟨h1, h2⟩
    have := hi.cnt
    rw [h1, h2, cnt_one] at this
    omega
  · intro h0
    exact cnt_inj whole_pos hi.low (show Low (C s) 1 from ⟨by omega, by simp⟩) hi.dvd (Int.one_dvd _) (by rw [hi.cnt, cnt_one]; omega)
theorem cmpE (a b d e : Int) (w : World) : (binOp .eql 34 (.agg #[.int .i64 a, .int .i64 b]) (.agg #[.int .i64 d, .int .i64 e])).run Tryd.prog w = .ok (.bool (decide (a = d) && decide (b = e))) w := by
  simp [go_sem]
  by_cases h1 : a = d
  · by_cases h2 : b = e
    · simp [h1, h2]
    · simp [h1, h2]
  · simp [h1]
theorem exS_0 {L : Nat} {C : Nat → Int} (hok : okC L C = true) (n : Nat) (F : Nat → Nat → Int) : exS n C F 0 = 0 := by
  unfold exS
  rw [(okC_iff.1 hok).2.1]
  have : ∀ k, pyS F 0 k = 0 := fun k => by
    induction k with
    | zero => rfl
    | succ k ih => simp [pyS, ih, inS]
  rw [this]; simp
theorem coB_of {L n : Nat} {C : Nat → Int} {F : Nat → Nat → Int} (hok : okC L C = true) : coB L n C F = true ↔ n = tzN L ∧ pyAll F n = true ∧ exS n C F (L - 1) = 0 ∧ ∀ s, s < L → exS n C F s ≤ 0 := by
  unfold coB shB
  simp only [Bool.and_eq_true, decide_eq_true_eq]
  rw [obF_zero (by rw [exS_0 hok]; omega)]
  constructor
  · rintro ⟨⟨h1, h2, h3⟩, h4⟩; exact ⟨h1, h2, h3, h4⟩
  · rintro ⟨h1, h2, h3, h4⟩; exact ⟨⟨h1, h2, h3⟩, h4⟩
theorem ls_fits {F : Nat → Nat → Int} {n : Nat} (h : pyAll F n = true) (hn : n ≤ 4) (s : Nat) {x : Int} (hx : 0 ≤ x ∧ x ≤ 1000) : (x * pB F s n).natAbs ≤ 4000000000000000000 ∧ (pA F s n * 1).natAbs ≤ 4000000000000000000 := by
  have hi := pA_inv h s
  have h1 := hi.four hn
  have h2 := hi.low.1
  rw [Int.mul_one, Int.natAbs_mul]
  have : x.natAbs * (pB F s n).natAbs ≤ 1000 * 331776 := Nat.mul_le_mul (by omega) (by omega)
  omega
set_option maxHeartbeats 2000000 in
set_option maxRecDepth 1000000 in
theorem refInCore_any (A B : Option Addr) (L c n c' : Nat) (C : Nat → Int) (F : Nat → Nat → Int) (w : World) (h : Ints w A L C) (hf : ArgK 2 w B n c' F) (hok : okC L C = true) :
    Lr 53 #[.slice A L c, .slice B n c'] w (.bool (coB L n C F)) := by
  unfold Lr
  obtain ⟨k, hk, hk1, hk4, hLk, hL2, hL16⟩ := okC_n hok
  have H := Lib.hid h
  have HF := Lib.hid hf
  have HPl := Lib.hid (refPlayers_any A L c C w h (by unfold maxLen; omega))
  have HPk : Hid (plN L C = k) := Lib.hid (by unfold plN; rw [hok, if_pos rfl, hk])
  have HPay := Lib.hid (refPayments_any B n c' k F w hf)
  have HCo := Lib.hid (coB_of (n := n) (F := F) hok)
  have HC := Lib.hid (okC_iff.1 hok).2.2
  have Hk := Lib.hid hk
  clear h hf hok hLk hk
  cases hp : (pyAll F n && decide (n = k)) with
  | false =>
    have HZ : Hid (coB L n C F = false) := Lib.hid (by
      cases h2 : coB L n C F with
      | false => rfl
      | true =>
        have h3 := HCo.out.1 h2
        rw [h3.2.1, decide_eq_true (h3.1.trans Hk.out)] at hp
        cases hp)
    rw [hp] at HPay
    clear hp
    go_enter Tryd.func53, Tryd.ntmps53
    go_wp2_with fail
    refine HPl.out.mono ?_
    rintro e w' ⟨rfl, rfl⟩
    rw [HPk.out]
    go_wp2_with fail
    refine HPay.out.use fun w2 hb => ?_
    go_wp2
    go_ret
    exact ⟨ret_bool HZ.out.symm, hb⟩
  | true =>
    rw [hp] at HPay
    rw [Bool.and_eq_true, decide_eq_true_iff] at hp
    obtain ⟨hpy, hnk⟩ := hp
    have HPy := Lib.hid hpy
    have Hnk := Lib.hid hnk
    have hn4 : n ≤ 4 := by omega
    have HNo : Hid (∀ s, s < L → 0 < exS n C F s → coB L n C F = false) := Lib.hid (fun s hs h0 => by
      cases h2 : coB L n C F with
      | false => rfl
      | true => have := (HCo.out.1 h2).2.2.2 s hs; omega)
    have HYes : Hid ((∀ s, s < L → exS n C F s ≤ 0) → coB L n C F = decide (exS n C F (L - 1) = 0)) := Lib.hid (fun hall => by
      rw [Bool.eq_iff_iff, HCo.out, decide_eq_true_iff]
      exact ⟨fun hh => hh.2.2.1, fun hh => ⟨Hnk.out.trans Hk.out.symm, HPy.out, hh, hall⟩⟩)
    clear hpy hnk
    go_enter Tryd.func53, Tryd.ntmps53
    go_wp2_with fail
    refine HPl.out.mono ?_
    rintro e w' ⟨rfl, rfl⟩
    rw [HPk.out]
    go_wp2_with fail
    refine HPay.out.use fun w2 hb => ?_
    have HB := Lib.hid hb
    clear hb
    go_wp2_with fail
    go_loopw [14] (fun i wr => ∃ s : Nat, s ≤ L ∧ i = .int .i64 s ∧ (∀ t, t < s → exS n C F t ≤ 0) ∧ Below w.heap.size w wr) (fun i _ => L - (intOf i).toNat)
    case atStart => exact ⟨0, Nat.zero_le _, rfl, fun t ht => absurd ht (by omega), HB.out⟩
    case round =>
      obtain ⟨s, hs, rfl, hall, hD⟩ := hrel
      have HA := Lib.hid hall
      have HD := Lib.hid hD
      clear hall
      by_cases hlt : s < L
      · obtain ⟨g, o, rfl, hc⟩ := (H.out.keep hD).at hlt
        have hx := HC.out s hlt
        have hfit := ls_fits HPy.out hn4 s hx
        have HLs := Lib.hid (fun w => lessF_any (C s) 1 (pA F s n) (pB F s n) hfit.1 hfit.2 w)
        have HLe := Lib.hid (ls_ex HPy.out C s)
        have HPs := Lib.hid (fun (w2 : World) (hb : Below w.heap.size w w2) => pays_lr B n c' s F w2 (HF.out.2.2.2.keep hb) hn4 HPy.out)
        have HN := Lib.hid (HNo.out s hlt)
        generalize C s = x at *
        generalize pA F s n = a at *
        generalize pB F s n = b at *
        clear hfit hD
        go_wp2_with fail
        refine (wholeR_any x _).use fun w3 hb3 => ?_
        have HD3 := Lib.hid (HD.out.trans (hb3.mono HD.out.size))
        clear hb3
        go_wp2_with fail
        refine (HPs.out w3 HD3.out).use fun w4 hb4 => ?_
        have HD4 := Lib.hid (HD3.out.trans (hb4.mono HD3.out.size))
        clear hb4
        go_wp2_with fail
        refine (HLs.out w4).use fun w5 hb5 => ?_
        have HD5 := Lib.hid (HD4.out.trans (hb5.mono HD4.out.size))
        clear hb5
        rw [HLe.out]
        by_cases hex : 0 < exS n C F s
        · have HZ := Lib.hid (HN.out hex)
          rw [decide_eq_true hex]
          clear hex
          go_wp2
          go_ret
          exact ⟨ret_bool HZ.out.symm, HD5.out⟩
        · have HA2 : Hid (∀ t, t < s + 1 → exS n C F t ≤ 0) := Lib.hid (fun t ht => by
            rcases Nat.lt_or_ge t s with hl | hl
            · exact HA.out t hl
            · obtain rfl : t = s := by omega
              omega)
          rw [decide_eq_false hex]
          clear hex
          go_wp2
          go_roundw
          case rel => exact ⟨s + 1, by omega, by go_num, HA2.out, HD5.out⟩
          case measure => simp [intOf]; omega
      · obtain rfl : s = L := by omega
        have HY := Lib.hid (HYes.out HA.out)
        obtain ⟨L1, hL1⟩ : ∃ L1, s - 1 = L1 := ⟨_, rfl⟩
        rw [hL1] at HY
        have hl1 : L1 < s := by omega
        have hsub : (s : Int) - 1 = (L1 : Int) := by omega
        have hwr : IntKind.i64.wrap (L1 : Int) = (L1 : Int) := IntWalk.i64_in _ (by omega)
        obtain ⟨g, o, rfl, hc⟩ := (H.out.keep hD).at hl1
        have HEq := Lib.hid (eq_ex HPy.out C L1)
        have HPs := Lib.hid (fun (w2 : World) (hb : Below wr.heap.size wr w2) => pays_lr B n c' L1 F w2 (HF.out.2.2.2.keep (HD.out.trans (hb.mono HD.out.size))) hn4 HPy.out)
        have HWh := Lib.hid (fun w => wholeR_any (C L1) w)
        have hcmp := fun w => cmpE (pA F L1 n) (pB F L1 n) (C L1) 1 w
        rw [HEq.out, ← HY.out] at hcmp
        generalize C L1 = x at *
        generalize pA F L1 n = a at *
        generalize pB F L1 n = b at *
        obtain ⟨r, hr⟩ : ∃ r, coB s n C F = r := ⟨_, rfl⟩
        rw [hr] at hcmp
        have HR := Lib.hid hr
        have k0 : ∀ q : Later wr, q.to.cell? ⟨g, o + L1, none⟩ = some (.int .i64 x) := fun q => q.cell hc
        clear hr hc hL1 hD
        go_wp2_with fail
        refine wp_region_later (by kernel_rfl) (by kernel_rfl) ?_
        repeat
          (with_reducible refine wpQuiet_step ?_
           intro K hK
           go_simp
           first
             | (refine hK _ ?_; clear hK K)
             | (apply Exists.intro
                refine ⟨fun _ => ?_, hK _ ?_⟩
                (first | (go_at_call 33; exact Lr.later (HPs.out _ (Later.below (by assumption)))) | (go_at_call 70; exact Lr.later (HWh.out _)))
                clear hK K))
        with_reducible refine wpQuiet_nil ?_
        intro _ hw'
        obtain ⟨p2, hw''⟩ := hw'
        subst hw''
        have HB2 := Lib.hid (HD.out.trans (p2.below.mono HD.out.size))
        clear k0
        go_wp2
        go_ret
        exact ⟨ret_bool HR.out.symm, HB2.out⟩
end Go.Proofs.YtgdlkmgdljcgnaaDoor
