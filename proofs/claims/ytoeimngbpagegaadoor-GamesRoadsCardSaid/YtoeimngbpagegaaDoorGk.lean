/- Payments in the program: arePayments, excess, objector, sharesAll, CheckCore, Objects. -/
import Derived.Test.YtoeimngbpagegaaDoorGh
namespace Go.Proofs.YtoeimngbpagegaaDoor
open Go.RowKit

/-- As a player's payment may be. -/
def pyOne (n d : Int) : Bool := decide (0 < d) && (decide (Int.gcd n d = 1) && (decide (d ≤ 24) && (decide (-100000 ≤ n) && decide (n ≤ 100000))))
theorem pyOne_iff {n d : Int} : pyOne n d = true ↔ Low n d ∧ d ≤ 24 ∧ -100000 ≤ n ∧ n ≤ 100000 := by
  unfold pyOne Low
  simp only [Bool.and_eq_true, decide_eq_true_eq]
  constructor
  · rintro ⟨h1, h2, h3, h4, h5⟩; exact ⟨⟨h1, h2⟩, h3, h4, h5⟩
  · rintro ⟨⟨h1, h2⟩, h3, h4, h5⟩; exact ⟨h1, h2, h3, h4, h5⟩
def noPy (n d : Int) : Bool := !(pyOne n d)
set_option maxHeartbeats 1000000 in
set_option maxRecDepth 1000000 in
theorem pay1_any (n d : Int) (w : World) : Lr 97 #[.agg #[.int .i64 n, .int .i64 d]] w (.bool (noPy n d)) := by
  unfold Lr
  have HN : Hid (noPy n d = !(pyOne n d)) := Lib.hid rfl
  have HI := Lib.hid (@pyOne_iff n d)
  have hB := (Below.refl w.heap.size w).alloc (Nat.le_refl _) (.cells #[.int .i64 n, .int .i64 d] 48)
  have HB := Lib.hid hB
  have HF : Hid (¬ (Low n d ∧ d ≤ 24 ∧ -100000 ≤ n ∧ n ≤ 100000) → noPy n d = true) := Lib.hid (fun h => by
    cases h2 : pyOne n d with
    | false => rw [HN.out, h2]; rfl
    | true => exact absurd (HI.out.1 h2) h)
  have hc0 : (w.alloc (.cells #[.int .i64 n, .int .i64 d] 48)).cell? ⟨w.heap.size, 0, none⟩ = some (.int .i64 n) := by simp [World.cell?_alloc_at]
  have hc1 : (w.alloc (.cells #[.int .i64 n, .int .i64 d] 48)).cell? ⟨w.heap.size, 1, none⟩ = some (.int .i64 d) := by simp [World.cell?_alloc_at]
  have k0 : ∀ q : Later (w.alloc (.cells #[.int .i64 n, .int .i64 d] 48)), q.to.cell? ⟨w.heap.size, 0, none⟩ = some (.int .i64 n) := fun q => q.cell hc0
  have k1 : ∀ q : Later (w.alloc (.cells #[.int .i64 n, .int .i64 d] 48)), q.to.cell? ⟨w.heap.size, 1, none⟩ = some (.int .i64 d) := fun q => q.cell hc1
  clear hB hc0 hc1
  by_cases h1 : -100000 ≤ n ∧ n ≤ 100000
  · have q1 : wtB n (-100000) 100000 = true := wtB_iff.2 h1
    by_cases h2 : 1 ≤ d ∧ d ≤ 24
    · have q2 : wtB d 1 24 = true := wtB_iff.2 h2
      have hL := low_iff (a := n) (b := d) (show 0 < d by omega)
      have HRe := Lib.hid (fun w => reduced_any n d (by omega) (by omega) (by omega) w)
      have hcmp := fun w => cmpF n d (rN n d) (rD n d) w
      have HFin : Hid (noPy n d = !(decide (n = rN n d) && decide (d = rD n d))) := Lib.hid (by
        rw [HN.out]
        congr 1
        by_cases hl : Low n d
        · have := hL.1 hl
          rw [HI.out.2 ⟨hl, h2.2, h1⟩, this.1, this.2]; simp
        · have e1 : pyOne n d = false := by
            cases h3 : pyOne n d with
            | false => rfl
            | true => exact absurd (HI.out.1 h3).1 hl
          rw [e1]
          have : ¬ (n = rN n d ∧ d = rD n d) := fun h => hl (hL.2 ⟨h.1.symm, h.2.symm⟩)
          by_cases e : n = rN n d
          · rw [decide_eq_false (fun e2 => this ⟨e, e2⟩), Bool.and_false]
          · rw [decide_eq_false e, Bool.false_and])
      generalize rN n d = a at *
      generalize rD n d = b at *
      obtain ⟨q, hq⟩ : ∃ q, (!(decide (n = a) && decide (d = b))) = q := ⟨_, rfl⟩
      rw [hq] at HFin hcmp
      clear hq hL h1 h2
      have HI1 : Hid (∀ w, Lr 79 #[.int .i64 n, .int .i64 (-100000), .int .i64 100000] w (.bool true)) := Lib.hid (fun w => (within_at n (-100000) 100000 true q1 w).mono fun _ _ h => ⟨h.1, by rw [← h.2]; exact Below.refl _ _⟩)
      have HI2 : Hid (∀ w, Lr 79 #[.int .i64 d, .int .i64 1, .int .i64 24] w (.bool true)) := Lib.hid (fun w => (within_at d 1 24 true q2 w).mono fun _ _ h => ⟨h.1, by rw [← h.2]; exact Below.refl _ _⟩)
      clear q1 q2
      go_enter Tryd.func97, Tryd.ntmps97
      go_wp2_with fail
      refine wp_region_later (by kernel_rfl) (by kernel_rfl) ?_
      repeat
        (with_reducible refine wpQuiet_step ?_
         intro K hK
         go_simp
         first
           | (refine hK _ ?_; clear hK K)
           | (apply Exists.intro
              refine ⟨fun _ => ?_, hK _ ?_⟩
              (first | (go_at_call 79; (first | (with_reducible exact Lr.later (HI1.out _)) | (with_reducible exact Lr.later (HI2.out _)))) | (go_at_call 72; exact Lr.later (HRe.out _)))
              clear hK K))
      with_reducible refine wpQuiet_nil ?_
      intro _ hw'
      obtain ⟨p2, hw''⟩ := hw'
      subst hw''
      have HB2 := Lib.hid (HB.out.trans (p2.below.mono HB.out.size))
      clear k0 k1
      go_wp2
      go_ret
      exact ⟨ret_bool HFin.out.symm, HB2.out⟩
    · have q2 : wtB d 1 24 = false := by
        cases h3 : wtB d 1 24 with
        | false => rfl
        | true => exact absurd (wtB_iff.1 h3) h2
      have HZ := Lib.hid (HF.out (fun h => h2 ⟨by have := h.1.1; omega, h.2.1⟩))
      have HI1 : Hid (∀ w, Lr 79 #[.int .i64 n, .int .i64 (-100000), .int .i64 100000] w (.bool true)) := Lib.hid (fun w => (within_at n (-100000) 100000 true q1 w).mono fun _ _ h => ⟨h.1, by rw [← h.2]; exact Below.refl _ _⟩)
      have HI2 : Hid (∀ w, Lr 79 #[.int .i64 d, .int .i64 1, .int .i64 24] w (.bool false)) := Lib.hid (fun w => (within_at d 1 24 false q2 w).mono fun _ _ h => ⟨h.1, by rw [← h.2]; exact Below.refl _ _⟩)
      clear q1 q2
      go_enter Tryd.func97, Tryd.ntmps97
      go_wp2_with fail
      refine wp_region_later (by kernel_rfl) (by kernel_rfl) ?_
      repeat
        (with_reducible refine wpQuiet_step ?_
         intro K hK
         go_simp
         first
           | (refine hK _ ?_; clear hK K)
           | (apply Exists.intro
              refine ⟨fun _ => ?_, hK _ ?_⟩
              (go_at_call 79; (first | (with_reducible exact Lr.later (HI1.out _)) | (with_reducible exact Lr.later (HI2.out _))))
              clear hK K))
      with_reducible refine wpQuiet_nil ?_
      intro _ hw'
      obtain ⟨p2, hw''⟩ := hw'
      subst hw''
      have HB2 := Lib.hid (HB.out.trans (p2.below.mono HB.out.size))
      clear k0 k1
      go_wp2
      go_ret
      exact ⟨ret_bool HZ.out.symm, HB2.out⟩
  · have q1 : wtB n (-100000) 100000 = false := by
      cases h3 : wtB n (-100000) 100000 with
      | false => rfl
      | true => exact absurd (wtB_iff.1 h3) h1
    have HZ := Lib.hid (HF.out (fun h => h1 h.2.2))
    have HI1 : Hid (∀ w, Lr 79 #[.int .i64 n, .int .i64 (-100000), .int .i64 100000] w (.bool false)) := Lib.hid (fun w => (within_at n (-100000) 100000 false q1 w).mono fun _ _ h => ⟨h.1, by rw [← h.2]; exact Below.refl _ _⟩)
    clear q1
    go_enter Tryd.func97, Tryd.ntmps97
    go_wp2_with fail
    refine wp_region_later (by kernel_rfl) (by kernel_rfl) ?_
    repeat
      (with_reducible refine wpQuiet_step ?_
       intro K hK
       go_simp
       first
         | (refine hK _ ?_; clear hK K)
         | (apply Exists.intro
            refine ⟨fun _ => ?_, hK _ ?_⟩
            (go_at_call 79; (first | (with_reducible exact Lr.later (HI1.out _))))
            clear hK K))
    with_reducible refine wpQuiet_nil ?_
    intro _ hw'
    obtain ⟨p2, hw''⟩ := hw'
    subst hw''
    have HB2 := Lib.hid (HB.out.trans (p2.below.mono HB.out.size))
    clear k0 k1
    go_wp2
    go_ret
    exact ⟨ret_bool HZ.out.symm, HB2.out⟩

set_option maxHeartbeats 1000000 in
set_option maxRecDepth 1000000 in
theorem indexPay_any (A : Option Addr) (n c : Nat) (F : Nat → Nat → Int) (w : World) (h : Recs 2 w A n F) (hn : n ≤ 10000) :
    Calls Tryd.prog 112 #[.slice A n c, .func (.func 97) #[] #[]] w fun e w' => ∃ r : Int, e = .returned (.int .i64 r) ∧ -1 ≤ r ∧ r ≤ n ∧ (decide (0 ≤ r)) = anyB (fun k => noPy (F k 0) (F k 1)) n ∧ Below w.heap.size w w' := by
  have H := Lib.hid h
  clear h
  go_enter Tryd.func112, Tryd.ntmps112
  go_wp2
  go_loopw [8] (fun i wr => ∃ k : Nat, k ≤ n ∧ i = .int .i64 k ∧ NoneLt (fun k => noPy (F k 0) (F k 1)) k ∧ Below w.heap.size w wr) (fun i _ => n - (intOf i).toNat)
  case atStart => exact ⟨0, Nat.zero_le _, rfl, NoneLt.zero, Below.refl _ _⟩
  case round =>
    obtain ⟨k, hk, rfl, he, hD⟩ := hrel
    have HE := Lib.hid he
    have HD := Lib.hid hD
    clear he hD
    by_cases hlt : k < n
    · obtain ⟨b, o, rfl, c0, c1⟩ := (H.out.keep HD.out).two hlt
      go_wp2_with fail
      refine (pay1_any (F k 0) (F k 1) wr).use fun w2 hb2 => ?_
      have HD2 := Lib.hid (HD.out.trans (hb2.mono HD.out.size))
      clear hb2 c0 c1
      cases hx : noPy (F k 0) (F k 1) with
      | true =>
        have HR : Hid (anyB (fun k => noPy (F k 0) (F k 1)) n = true) := Lib.hid (anyB_t (p := fun k => noPy (F k 0) (F k 1)) hlt hx)
        clear hx
        go_wp2
        go_ret
        exact ⟨k, rfl, by omega, by omega, by rw [HR.out]; simp, HD2.out⟩
      | false =>
        have HE2 := Lib.hid (HE.out.succ hx)
        clear hx
        go_wp2
        go_roundw
        case rel => exact ⟨k + 1, by omega, by go_num, HE2.out, HD2.out⟩
        case measure => simp [intOf]; omega
    · obtain rfl : n = k := by omega
      go_wp2
      go_ret
      exact ⟨-1, rfl, by omega, by omega, by rw [anyB_f HE.out]; rfl, HD.out⟩
theorem anyPay_any (A : Option Addr) (n c : Nat) (F : Nat → Nat → Int) (w : World) (h : Recs 2 w A n F) (hn : n ≤ 10000) :
    Lr 96 #[.slice A n c, .func (.func 97) #[] #[]] w (.bool (anyB (fun k => noPy (F k 0) (F k 1)) n)) := by
  unfold Lr
  have H := Lib.hid (indexPay_any A n c F w h hn)
  clear h hn
  go_enter Tryd.func96, Tryd.ntmps96
  go_wp2_with fail
  refine H.out.mono ?_
  rintro e w' ⟨r, rfl, h1, h2, h3, hb⟩
  have H3 := Lib.hid h3
  clear h3
  go_wp2
  go_ret
  exact ⟨ret_bool H3.out, hb⟩
/-- All are as a payment may be. -/
def pyAll (F : Nat → Nat → Int) (n : Nat) : Bool := allB (fun k => pyOne (F k 0) (F k 1)) n
theorem pyAll_no (F : Nat → Nat → Int) (n : Nat) : pyAll F n = !(anyB (fun k => noPy (F k 0) (F k 1)) n) := by
  unfold pyAll
  induction n with
  | zero => rfl
  | succ n ih =>
    simp only [allB, anyB, ih, noPy]
    cases anyB (fun k => !(pyOne (F k 0) (F k 1))) n <;> cases pyOne (F n 0) (F n 1) <;> rfl
theorem arePay_any (A : Option Addr) (n c : Nat) (F : Nat → Nat → Int) (w : World) (h : Recs 2 w A n F) (hn : n ≤ 10000) :
    Lr 83 #[.slice A n c] w (.bool (pyAll F n)) := by
  unfold Lr
  have H := Lib.hid (anyPay_any A n c F w h hn)
  have HN := Lib.hid (pyAll_no F n)
  clear h hn
  go_enter Tryd.func83, Tryd.ntmps83
  go_wp2_with fail
  refine H.out.use fun w2 hb => ?_
  generalize anyB (fun k => noPy (F k 0) (F k 1)) n = b at *
  go_wp2
  go_ret
  exact ⟨ret_bool HN.out.symm, hb⟩

/-- What a set pays, in units of 1/whole. -/
def pyS (F : Nat → Nat → Int) (s : Nat) : Nat → Int
  | 0 => 0
  | k + 1 => pyS F s k + if inS s k = true then cntF wholeI (F k 0) (F k 1) else 0
theorem cnt_bd {n d : Int} (h : pyOne n d = true) : -535422888000000 ≤ cntF wholeI n d ∧ cntF wholeI n d ≤ 535422888000000 := by
  obtain ⟨⟨h1, -⟩, h2, h3, h4⟩ := pyOne_iff.1 h
  unfold cntF wholeI
  have hq1 : 0 ≤ 5354228880 / d := Int.ediv_nonneg (by omega) (by omega)
  have hq2 : 5354228880 / d ≤ 5354228880 := Int.ediv_le_self _ (by omega)
  generalize 5354228880 / d = q at *
  have a1 : n * q ≤ 100000 * q := Int.mul_le_mul_of_nonneg_right h4 hq1
  have a2 : -100000 * q ≤ n * q := Int.mul_le_mul_of_nonneg_right h3 hq1
  omega
theorem pyS_bd {F : Nat → Nat → Int} {n : Nat} (h : pyAll F n = true) (s : Nat) : ∀ k : Nat, k ≤ n → -(535422888000000 * (k : Int)) ≤ pyS F s k ∧ pyS F s k ≤ 535422888000000 * k := by
  intro k
  induction k with
  | zero => intro _; simp [pyS]
  | succ k ih =>
    intro hk
    have := ih (by omega)
    have h2 := cnt_bd (allB_iff.1 h k (by omega))
    simp only [pyS]
    split <;> omega
/-- By how much a set's payment is above its cost. -/
def exS (n : Nat) (C : Nat → Int) (F : Nat → Nat → Int) (s : Nat) : Int := pyS F s n - C s * wholeI
theorem wr1 (a : Int) (h : -3000000000000000 ≤ a ∧ a ≤ 3000000000000000) : wrap64 a = a := IntWalk.wrap64_in _ (by omega)
set_option maxHeartbeats 1000000 in
set_option maxRecDepth 1000000 in
theorem excess_any (A B : Option Addr) (L c n c' s : Nat) (C : Nat → Int) (F : Nat → Nat → Int) (w : World) (h : Ints w A L C) (hf : Recs 2 w B n F) (hn : n ≤ 4) (hs : s < L) (hC : 0 ≤ C s ∧ C s ≤ 1000) (hp : pyAll F n = true) :
    Lr 84 #[.slice A L c, .slice B n c', .int .i64 s] w (.int .i64 (exS n C F s)) := by
  unfold Lr
  have H := Lib.hid h
  have HF := Lib.hid hf
  have HBd := Lib.hid (fun k hk => pyS_bd hp s k hk)
  have HP := Lib.hid (allB_iff.1 hp)
  have HCn := Lib.hid (fun k (hk : k < n) => cnt_bd (allB_iff.1 hp k hk))
  have HS : Hid (∀ k, pyS F s (k + 1) = pyS F s k + if inS s k = true then cntF wholeI (F k 0) (F k 1) else 0) := Lib.hid (fun _ => rfl)
  have HE : Hid (pyS F s n - C s * 5354228880 = exS n C F s) := Lib.hid rfl
  obtain ⟨hC1, hC2⟩ := hC
  clear h hf hp
  go_enter Tryd.func84, Tryd.ntmps84
  go_wp2
  go_loopw [7, 12] (fun su i wr => ∃ k : Nat, k ≤ n ∧ i = .int .i64 k ∧ su = .int .i64 (pyS F s k) ∧ Below w.heap.size w wr) (fun _ i _ => n - (intOf i).toNat)
  case atStart => exact ⟨0, Nat.zero_le _, rfl, rfl, Below.refl _ _⟩
  case round =>
    obtain ⟨k, hk, rfl, rfl, hD⟩ := hrel
    have HD := Lib.hid hD
    by_cases hlt : k < n
    · obtain ⟨b, o, rfl, c0, c1⟩ := (HF.out.keep hD).two hlt
      have hsu := HBd.out k hk
      have HSk := Lib.hid (HS.out k)
      have hcn := HCn.out k hlt
      have HDa := Lib.hid (hD.alloc hD.size (.cells #[.int .i64 (F k 0), .int .i64 (F k 1)] 48))
      have hpo := pyOne_iff.1 (HP.out k hlt)
      have HCt := Lib.hid (fun w => counted_any (F k 0) (F k 1) (by have := hpo.1.1; omega) hpo.2.1 hpo.2.2.1 hpo.2.2.2 w)
      clear hpo hD
      generalize cntF wholeI (F k 0) (F k 1) = ct at *
      generalize pyS F s k = su at *
      go_wp2_with fail
      refine (has_any s k (by omega) _).mono ?_
      rintro e w4 ⟨rfl, rfl⟩
      cases hb : inS s k with
      | false =>
        have HS2 := Lib.hid (show pyS F s (k + 1) = su by rw [HSk.out, hb]; simp)
        clear hb hsu hcn
        go_wp2
        go_roundw
        case rel => exact ⟨k + 1, by omega, by go_num, by rw [HS2.out], HDa.out⟩
        case measure => simp [intOf]; omega
      | true =>
        have HS2 := Lib.hid (show pyS F s (k + 1) = su + ct by rw [HSk.out, hb]; simp)
        have hw := wr1 (su + ct) (by omega)
        clear hb hsu hcn
        go_wp2_with fail
        refine (HCt.out _).use fun w5 hb5 => ?_
        have HD5 := Lib.hid (HDa.out.trans (hb5.mono HDa.out.size))
        clear hb5
        go_wp2
        go_roundw
        case rel => exact ⟨k + 1, by omega, by go_num, by rw [HS2.out]; first | rfl | rw [hw], HD5.out⟩
        case measure => simp [intOf]; omega
    · obtain rfl : k = n := by omega
      have hsu := HBd.out k hk
      obtain ⟨b, o, rfl, hc⟩ := (H.out.keep hD).at hs
      have hw := wr1 (pyS F s k - C s * 5354228880) (by omega)
      have hw2 := wr1 (C s * 5354228880) (by omega)
      generalize pyS F s k = su at *
      generalize C s = x at *
      clear hsu
      go_wp2
      go_ret
      exact ⟨ret_int (by rw [← HE.out]; first | rfl | rw [hw]), HD.out⟩
end Go.Proofs.YtoeimngbpagegaaDoor
