/- Check. -/
import Derived.Test.YthbahfmcmbjglaaQt
namespace Go.Proofs.Ythbahfmcmbjglaa
open Go.RowKit

theorem allB_and (P Q : Nat → Bool) : ∀ m, allB (fun k => P k && Q k) m = (allB P m && allB Q m) := by
  intro m
  induction m with
  | zero => rfl
  | succ m ih =>
    simp only [allB, ih]
    cases allB P m <;> cases allB Q m <;> cases P m <;> cases Q m <;> rfl
theorem whB_eq (m n : Nat) (J p : Nat → Nat → Int) : whB m n J p = (allB (plP n p) m && (allB (relP J p) m && eqB n n (dnF p m) (fun k => J k 0))) := by
  unfold whB
  have h1 : allB (refB n J p) m = (allB (plP n p) m && allB (relP J p) m) := allB_and _ _ m
  rw [h1, Bool.and_assoc]
  congr 2
  unfold eqB
  rw [decide_eq_true rfl, Bool.true_and]
  rfl
/-- All pieces together are at least as long as they are many. -/
theorem dn_sum {n : Nat} {p : Nat → Nat → Int} : ∀ m, AllLt (plP n p) m → (m : Int) ≤ smT (dnF p m) n := by
  intro m
  induction m with
  | zero =>
    intro _
    exact smT_nonneg (fun k _ => Int.le_refl _)
  | succ m ih =>
    intro h
    have h1 := ih (fun a ha => h a (by omega))
    have h2 := plP_iff.1 (h m (by omega))
    rw [dnF, smT_upd, if_pos (by omega)]
    push_cast
    omega
theorem whB_few {m n : Nat} {J p : Nat → Nat → Int} (hok : okJ n J = true) (h : whB m n J p = true) : m ≤ 160 := by
  rw [whB_eq, Bool.and_eq_true_iff, Bool.and_eq_true_iff] at h
  have h1 := dn_sum m (fun a ha => allB_iff.1 h.1 a ha)
  have h2 : smT (dnF p m) n = smT (fun k => J k 0) n := smT_congr (fun k hk => by
    have := allB_iff.1 (Bool.and_eq_true_iff.1 h.2.2).2 k hk
    exact of_decide_eq_true this)
  have h3 := total_le hok
  omega
theorem whB_min {m n : Nat} {J p : Nat → Nat → Int} (hok : okJ n J = true) : whB (min m 200) n J p = whB m n J p := by
  by_cases h : m ≤ 200
  · rw [Nat.min_eq_left h]
  · have h1 : whB (min m 200) n J p = false := by
      cases e : whB (min m 200) n J p with
      | false => rfl
      | true => have := whB_few hok e; omega
    have h2 : whB m n J p = false := by
      cases e : whB m n J p with
      | false => rfl
      | true => have := whB_few hok e; omega
    rw [h1, h2]

set_option maxHeartbeats 2000000 in
set_option maxRecDepth 1000000 in
theorem check_bad (A B : Option Addr) (m c n c2 : Nat) (p J : Nat → Nat → Int) (w : World) (hJ : Recs 4 w B n J) (hn : n ≤ maxLen) (hok : okJ n J = false) :
    Lr 31 #[.slice B n c2, .slice A m c] w (.tuple #[.slice none 0 0, .bool false, .int .i64 2]) := by
  unfold Lr
  have H := Lib.hid hJ
  have HO := Lib.hid hok
  have hmm := Lib.hid hn
  clear hJ hok hn
  go_enter Try.func31, Try.ntmps31
  go_wp2_with fail
  refine (valid_any B n c2 J w H.out hmm.out).use fun w1 hb1 => ?_
  rw [HO.out]
  have HB := Lib.hid hb1
  clear hb1
  go_wp2
  go_returns
  exact ⟨rfl, HB.out⟩

set_option maxHeartbeats 2000000 in
set_option maxRecDepth 1000000 in
theorem check_ok (A B : Option Addr) (m c n c2 : Nat) (p J : Nat → Nat → Int) (w : World) (h : Recs 3 w A m p) (hJ : Recs 4 w B n J) (hok : okJ n J = true) (hm : m ≤ maxLen) :
    Calls Try.prog 31 #[.slice B n c2, .slice A m c] w fun e w' => ((whB m n J p = false ∧ e = .returned (.tuple #[.slice none 0 0, .bool false, .int .i64 0])) ∨ (whB m n J p = true ∧ ∃ g, e = .returned (.tuple #[.slice (some ⟨g, 0, none⟩) n n, .bool true, .int .i64 0]) ∧ RowI w' g n (enF p m))) ∧ Below w.heap.size w w' := by
  have H := Lib.hid h
  have HJ := Lib.hid hJ
  have HO := Lib.hid hok
  have hmm := Lib.hid hm
  have hn := (okJ_iff.1 hok).1
  have HEq := Lib.hid (whB_eq m n J p)
  have HFew := Lib.hid (fun h : whB m n J p = true => whB_few hok h)
  clear h hJ hok hm
  go_enter Try.func31, Try.ntmps31
  go_wp2_with fail
  refine (valid_any B n c2 J w HJ.out (by unfold maxLen; omega)).use fun w1 hb1 => ?_
  rw [HO.out]
  have HB1 := Lib.hid hb1
  clear hb1
  go_wp2_with fail
  refine (isPlan_any A m c n p w1 (H.out.keep HB1.out) hn hmm.out).use fun w2 hb2 => ?_
  have HB2 := Lib.hid (HB1.out.trans (hb2.mono HB1.out.size))
  clear hb2
  cases hp : allB (plP n p) m with
  | false =>
    have HW := Lib.hid (show whB m n J p = false by rw [HEq.out, hp, Bool.false_and])
    clear hp
    go_wp2
    go_returns
    exact ⟨.inl ⟨HW.out, rfl⟩, HB2.out⟩
  | true =>
    have HP := Lib.hid (fun a ha => allB_iff.1 hp a ha)
    have HEq2 := Lib.hid (show whB m n J p = (allB (relP J p) m && eqB n n (dnF p m) (fun k => J k 0)) by rw [HEq.out, hp, Bool.true_and])
    clear hp
    go_wp2_with fail
    refine (isWhole_any A B m c n c2 p J w2 (H.out.keep HB2.out) (HJ.out.keep HB2.out) HO.out HP.out hmm.out).use fun w3 hb3 => ?_
    have HB3 := Lib.hid (HB2.out.trans (hb3.mono HB2.out.size))
    clear hb3
    rw [← HEq2.out]
    cases hw : whB m n J p with
    | false =>
      have HWF := Lib.hid hw
      clear hw
      go_wp2
      go_returns
      exact ⟨.inl ⟨HWF.out, rfl⟩, HB3.out⟩
    | true =>
      have hfew := HFew.out hw
      have HPr : Hid (∀ a, a < m → 0 ≤ p a 0 ∧ p a 0 < n) := Lib.hid (fun a ha => by
        have := plP_iff.1 (HP.out a ha)
        exact ⟨this.1, this.2.1⟩)
      have HWT := Lib.hid hw
      clear hw
      go_wp2_with fail
      refine (endsOf_any A m c n p w3 (H.out.keep HB3.out) HPr.out (by omega) hn.2).mono ?_
      rintro e w4 ⟨rfl, hE, hb4⟩
      have HE := Lib.hid hE
      have HB4 := Lib.hid (HB3.out.trans (hb4.mono HB3.out.size))
      clear hE hb4
      go_wp2
      go_returns
      exact ⟨.inr ⟨HWT.out, _, rfl, HE.out⟩, HB4.out⟩
end Go.Proofs.Ythbahfmcmbjglaa
