/- isWhole. -/
import Derived.Test.YthbahfmcmbjglaaQp
namespace Go.Proofs.Ythbahfmcmbjglaa
open Go.RowKit

/-- What is done of each job by the first k pieces. -/
def dnF (p : Nat → Nat → Int) : Nat → Nat → Int
  | 0 => fun _ => 0
  | k + 1 => upd (dnF p k) (p k 0).toNat (dnF p k (p k 0).toNat + (p k 2 - p k 1))
theorem plP_iff {n : Nat} {p : Nat → Nat → Int} {k : Nat} : plP n p k = true ↔ 0 ≤ p k 0 ∧ p k 0 < n ∧ pvF p k 2 ≤ p k 1 ∧ p k 1 < p k 2 ∧ p k 2 ≤ 1000 ∧ ¬ (p k 0 = pvF p k 0 ∧ p k 1 = pvF p k 2) := decide_eq_true_iff
theorem dnF_rng {n : Nat} {p : Nat → Nat → Int} : ∀ k, AllLt (plP n p) k → (0 ≤ pvF p k 2 ∧ pvF p k 2 ≤ 1000) ∧ ∀ j, 0 ≤ dnF p k j ∧ dnF p k j ≤ pvF p k 2 := by
  intro k
  induction k with
  | zero => intro _; exact ⟨by simp [pvF], fun j => by simp [dnF, pvF]⟩
  | succ k ih =>
    intro h
    have h1 := ih (fun a ha => h a (by omega))
    have h2 := plP_iff.1 (h k (by omega))
    have hp : pvF p (k + 1) = p k := rfl
    rw [hp]
    refine ⟨by omega, fun j => ?_⟩
    have h3 := h1.2 j
    rw [dnF]
    unfold upd
    by_cases e : j = (p k 0).toNat
    · rw [if_pos e, ← e]
      omega
    · rw [if_neg e]
      omega
def relP (J p : Nat → Nat → Int) (k : Nat) : Bool := decide (J (p k 0).toNat 1 ≤ p k 1)

set_option maxHeartbeats 2000000 in
set_option maxRecDepth 1000000 in
theorem isWhole_any (A B : Option Addr) (m c n c2 : Nat) (p J : Nat → Nat → Int) (w : World) (h : Recs 3 w A m p) (hJ : Recs 4 w B n J) (hok : okJ n J = true) (hp : AllLt (plP n p) m) (hm : m ≤ maxLen) :
    Lr 51 #[.slice A m c, .slice B n c2] w (.bool (allB (relP J p) m && eqB n n (dnF p m) (fun k => J k 0))) := by
  unfold Lr
  have H := Lib.hid h
  have HJ := Lib.hid hJ
  have HO := Lib.hid hok
  have HP := Lib.hid hp
  have hm2 : m ≤ 9223372036854775807 := by unfold maxLen at hm; omega
  have hn := (okJ_iff.1 hok).1
  obtain ⟨hn1, hn8⟩ := hn
  have hmk := mk_ints n (by omega) w
  clear h hm hJ hok hp
  go_enter Try.func51, Try.ntmps51
  go_wp2
  have hM := RowI.made w n
  have hB0 := (Below.refl w.heap.size w).alloc (Nat.le_refl _) (.cells (madeCells #[.int .i64 0] n) 3)
  clear hmk
  generalize w.alloc (.cells (madeCells #[.int .i64 0] n) 3) = W0 at *
  go_loopw [13] (fun i wr => ∃ k : Nat, k ≤ m ∧ i = .int .i64 k ∧ AllLt (relP J p) k ∧ RowI wr w.heap.size n (dnF p k) ∧ Below w.heap.size w wr) (fun i _ => m - (intOf i).toNat)
  case atStart => exact ⟨0, Nat.zero_le _, rfl, AllLt.zero, hM, hB0⟩
  case round =>
    obtain ⟨k, hk, rfl, hA, hR, hD⟩ := hrel
    have HA := Lib.hid hA
    have HR := Lib.hid hR
    have HD := Lib.hid hD
    clear hA hR hM hB0
    by_cases hlt : k < m
    · obtain ⟨b, o, rfl, c0, c1, c2⟩ := (H.out.keep hD).three hlt
      have hpl := plP_iff.1 (HP.out k hlt)
      have hrg := dnF_rng k (fun a ha => HP.out a (by omega))
      obtain ⟨j, hj, hjn⟩ : ∃ j : Nat, p k 0 = (j : Int) ∧ j < n := ⟨(p k 0).toNat, by omega, by omega⟩
      have hW1 := hD.alloc hD.size (.cells #[.int .i64 (j : Int), .int .i64 (p k 1), .int .i64 (p k 2)] 65)
      obtain ⟨b2, o2, rfl, g0, g1, g2, g3⟩ := (HJ.out.keep hW1).four hjn
      have hR1 := HR.out.alloc (.cells #[.int .i64 (j : Int), .int .i64 (p k 1), .int .i64 (p k 2)] 65)
      have hcell := hR1.cell hjn
      have hfr := hR1.frozen j
      have HRj := Lib.hid (show relP J p k = decide (J j 1 ≤ p k 1) by unfold relP; rw [hj]; rfl)
      have HDn := Lib.hid (show dnF p (k + 1) = upd (dnF p k) j (dnF p k j + (p k 2 - p k 1)) by rw [dnF, hj]; rfl)
      have hd1 := (hrg.2 j).1
      have hd2 : dnF p k j ≤ 1000 := by have := (hrg.2 j).2; omega
      have hp1 : 0 ≤ p k 1 := by omega
      have hp2 : p k 2 ≤ 1000 := hpl.2.2.2.2.1
      have hp3 : p k 1 < p k 2 := hpl.2.2.2.1
      have HR1 := Lib.hid hR1
      have HW1 := Lib.hid hW1
      rw [hj] at c0
      clear hj hpl hrg hR1 hW1 hD
      generalize hdj : dnF p k j = d at *
      clear hdj
      by_cases hrel : J j 1 ≤ p k 1
      · have HT : Hid (relP J p k = true) := Lib.hid (by rw [HRj.out]; exact decide_eq_true hrel)
        have HS := Lib.hid (HR1.out.set j (d + (p k 2 - p k 1)))
        have HDs := Lib.hid (HW1.out.setCell (p := ⟨w.heap.size, j, none⟩) (Nat.le_refl _) (.int .i64 (d + (p k 2 - p k 1))))
        generalize J j 1 = r at *
        generalize p k 1 = x1 at *
        generalize p k 2 = x2 at *
        go_wp2_with fail
        go_quiet (fail)
        go_wp2_with fail
        go_region
        go_wp2
        go_roundw
        case rel => exact ⟨k + 1, by omega, by go_num, HA.out.succ HT.out, by rw [HDn.out]; exact HS.out.dn ((Dn.refl _).drewN _), HDs.out.trans (((Dn.refl _).drewN _).below _)⟩
        case measure => simp [intOf]; omega
      · have HT : Hid ((allB (relP J p) m && eqB n n (dnF p m) (fun k => J k 0)) = false) := Lib.hid (by rw [allB_f hlt (by rw [HRj.out]; exact decide_eq_false hrel), Bool.false_and])
        generalize J j 1 = r at *
        generalize p k 1 = x1 at *
        generalize p k 2 = x2 at *
        go_wp2_with fail
        go_quiet (fail)
        go_wp2
        go_ret
        exact ⟨ret_bool HT.out.symm, HW1.out.trans (((Dn.refl _).drewN _).below _)⟩
    · obtain rfl : k = m := by omega
      have HAT := Lib.hid (allB_t HA.out)
      go_wp2_with fail
      refine (timesOf_any _ n c2 J wr (HJ.out.keep HD.out) (by omega)).mono ?_
      rintro e w2 ⟨c', rfl, hc', hR2, hb2⟩
      have HR2 := Lib.hid hR2
      have HR3 := Lib.hid (HR.out.keep hb2)
      have HB2 := Lib.hid (HD.out.trans (hb2.mono HD.out.size))
      clear hR2 hb2
      go_wp2_with fail
      refine (equal_any _ _ n n n c' (dnF p k) (fun k => J k 0) w2 HR3.out.ints HR2.out.ints (by omega) (by omega)).use fun w3 hd3 => ?_
      have HB3 := Lib.hid (HB2.out.trans (hd3.below _))
      clear hd3
      go_wp2
      go_ret
      exact ⟨ret_bool (by rw [HAT.out, Bool.true_and]), HB3.out⟩
end Go.Proofs.Ythbahfmcmbjglaa
