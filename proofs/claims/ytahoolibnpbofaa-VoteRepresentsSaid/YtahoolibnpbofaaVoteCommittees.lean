/- The law VoteCommittees, walked. -/
import Derived.Test.YtahoolibnpbofaaCw
import Derived.Test.YtahoolibnpbofaaAk
import Derived.Test.YtahoolibnpbofaaTg
namespace Go.Proofs.Ytahoolibnpbofaa
open Go.RowKit

theorem okAp_few (c k : Int) (n : Nat) (f : Nat → Int) : okAp c k (min n 11) f = okAp c k n f := by
  unfold okAp
  congr 1
  congr 1
  by_cases h : 1 ≤ n ∧ n ≤ 9
  · have e : min n 11 = n := by omega
    rw [e]
  · rw [decide_eq_false h, decide_eq_false (p := 1 ≤ min n 11 ∧ min n 11 ≤ 9) (by omega), Bool.false_and, Bool.false_and]
theorem okAp_iff {c k : Int} {n : Nat} {f : Nat → Int} (h : okAp c k n f = true) : ∃ C K : Nat, c = (C : Int) ∧ k = (K : Int) ∧ 1 ≤ C ∧ C ≤ 8 ∧ 1 ≤ K ∧ K ≤ C ∧ 1 ≤ n ∧ n ≤ 9 ∧ Sets n f (fun i => (f i).toNat) := by
  unfold okAp at h
  rw [Bool.and_eq_true, Bool.and_eq_true, Bool.and_eq_true, decide_eq_true_iff, decide_eq_true_iff, decide_eq_true_iff, allB_iff] at h
  obtain ⟨h1, h2, h3, h4⟩ := h
  refine ⟨c.toNat, k.toNat, by omega, by omega, by omega, by omega, by omega, by omega, h3.1, h3.2, fun i hi => ?_⟩
  have := h4 i hi
  unfold isS at this
  rw [Bool.and_eq_true, decide_eq_true_iff, decide_eq_true_iff] at this
  have hM : 2 ^ c.toNat ≤ 2 ^ 8 := Nat.pow_le_pow_right (by omega) (by omega)
  show f i = (((f i).toNat : Nat) : Int) ∧ (f i).toNat < 256
  omega
theorem bestV_R {g : Nat → Nat} {n k c : Nat} (hc : c ≤ 8) (hk : k ≤ c) : bestV (cmF g n k (2 ^ c)) = bestR (cmF g n k (2 ^ c)) := by
  obtain ⟨h1, h2⟩ := pc_all c (by omega) k hk
  obtain ⟨b, hb⟩ := cmF_some g n k h1 (2 ^ c) h2
  rw [hb]
  rfl

set_option maxHeartbeats 2000000 in
set_option maxRecDepth 1000000 in
theorem voteCommittees_bad (c k : Int) (A : Option Addr) (n cA : Nat) (f : Nat → Int) (cm : Int) (w : World) (h : ArgI w A n cA f) (hok : okAp c k n f = false) :
    Calls Try.prog 6 #[.int .i64 c, .int .i64 k, .slice A n cA, .int .i64 cm] w fun e w' => e = .returned (.bool true) ∧ Below w.heap.size w w' := by
  have H := Lib.hid h
  have HK := Lib.hid hok
  have HK2 := Lib.hid ((okAp_few c k n f).trans hok)
  clear h hok
  go_enter Try.func6, Try.ntmps6
  go_wp2_with fail
  refine (listV H.out).mono ?_
  rintro e w1 ⟨A1, k1, c1, rfl, hk1, hl1, hc1, hb1⟩
  obtain ⟨A1', c1', e1, hI1⟩ := hl1.sl0
  injection e1 with e1 e2 e3
  subst e1 e3
  have HM := Lib.hid (Committee_bad c k A1 k1 c1 f w1 hI1 (by omega) (by rw [hk1]; exact HK2.out))
  have Hb1 := Lib.hid hb1
  clear hk1 hl1 hc1 hb1 hI1 e2
  go_wp2_with fail
  refine Ro.use HM.out ?_
  intro w2 hd2
  have Hb2 := Lib.hid (Hb1.out.trans (hd2.below _))
  clear hd2 HM
  go_wp2_with fail
  refine (listV (H.out.below Hb2.out)).mono ?_
  rintro e w3 ⟨A3, k3, c3, rfl, hk3, hl3, hc3, hb3⟩
  obtain ⟨A3', c3', e1, hI3⟩ := hl3.sl0
  injection e1 with e1 e2 e3
  subst e1 e3
  have HM := Lib.hid (Group_bad c k A3 k3 c3 f cm w3 hI3 (by omega) (by rw [hk3]; exact HK2.out))
  have Hb3 := Lib.hid (Hb2.out.trans (hb3.mono Hb2.out.size))
  clear hk3 hl3 hc3 hb3 hI3 e2
  go_wp2_with fail
  refine Ro.use HM.out ?_
  intro w4 hd4
  have Hb4 := Lib.hid (Hb3.out.trans (hd4.below _))
  clear hd4 HM
  have HV := Lib.hid (rApprovals_any c k A n cA f w4 (H.out.below Hb4.out))
  rw [HK.out] at HV
  go_wp2_with fail
  refine Ro.use HV.out ?_
  intro w5 hd5
  have Hb5 := Lib.hid (Hb4.out.trans (hd5.below _))
  clear hd5 HV
  go_wp2_with fail
  refine Lr.use (awake_any _) ?_
  intro w6 hb6
  have Hb6 := Lib.hid (Hb5.out.trans (hb6.mono Hb5.out.size))
  clear hb6
  go_wp2
  go_ret
  exact ⟨rfl, Hb6.out⟩

set_option maxHeartbeats 2000000 in
set_option maxRecDepth 1000000 in
theorem voteCommittees_no (c k : Nat) (A : Option Addr) (n cA : Nat) (f : Nat → Int) (g : Nat → Nat) (cm : Int) (w : World) (h : ArgI w A n cA f) (hok : okAp c k n f = true) (hc : c ≤ 8) (hkc : k ≤ c) (hn1 : 1 ≤ n) (hn : n ≤ 9) (hg : Sets n f g) (hcm : isCm cm c k = false) :
    Calls Try.prog 6 #[.int .i64 c, .int .i64 k, .slice A n cA, .int .i64 cm] w fun e w' => e = .returned (.bool true) ∧ Below w.heap.size w w' := by
  have H := Lib.hid h
  have HK := Lib.hid hok
  have HG := Lib.hid hg
  have HC := Lib.hid hcm
  have HBe : Hid (bestV (cmF g n k (2 ^ c)) = bestR (cmF g n k (2 ^ c))) := Lib.hid (bestV_R hc hkc)
  have hmn : min n 11 = n := by omega
  clear h hok hg hcm
  go_enter Try.func6, Try.ntmps6
  go_wp2_with fail
  refine (listV H.out).mono ?_
  rintro e w1 ⟨A1, k1, c1, rfl, hk1, hl1, hc1, hb1⟩
  obtain ⟨A1', c1', e1, hI1⟩ := hl1.sl0
  injection e1 with e1 e2 e3
  subst e1 e3
  rw [hmn] at hk1
  have HM : Hid (Ro 32 #[.int .i64 c, .int .i64 k, .slice A1 k1 c1] w1 (.tuple #[.int .i64 (bestR (cmF g n k (2 ^ c))), .int .i64 0])) := Lib.hid (by
    rw [← HBe.out, hk1]
    rw [hk1] at hI1
    exact Committee_ok c k A1 n c1 f g w1 hI1 hn HG.out hc HK.out)
  have Hb1 := Lib.hid hb1
  clear hk1 hl1 hc1 hb1 hI1 e2
  go_wp2_with fail
  refine Ro.use HM.out ?_
  intro w2 hd2
  have Hb2 := Lib.hid (Hb1.out.trans (hd2.below _))
  clear hd2 HM
  go_wp2_with fail
  refine (listV (H.out.below Hb2.out)).mono ?_
  rintro e w3 ⟨A3, k3, c3, rfl, hk3, hl3, hc3, hb3⟩
  obtain ⟨A3', c3', e1, hI3⟩ := hl3.sl0
  injection e1 with e1 e2 e3
  subst e1 e3
  rw [hmn] at hk3
  have HM : Hid (Ro 33 #[.int .i64 c, .int .i64 k, .slice A3 k3 c3, .int .i64 cm] w3 (.tuple #[.int .i64 0, .int .i64 2])) := Lib.hid (by
    rw [hk3]
    rw [hk3] at hI3
    exact Group_no c k A3 n c3 f cm w3 hI3 hn hc HK.out HC.out)
  have Hb3 := Lib.hid (Hb2.out.trans (hb3.mono Hb2.out.size))
  clear hk3 hl3 hc3 hb3 hI3 e2
  go_wp2_with fail
  refine Ro.use HM.out ?_
  intro w4 hd4
  have Hb4 := Lib.hid (Hb3.out.trans (hd4.below _))
  clear hd4 HM
  have HV := Lib.hid (rApprovals_any c k A n cA f w4 (H.out.below Hb4.out))
  rw [HK.out] at HV
  go_wp2_with fail
  refine Ro.use HV.out ?_
  intro w5 hd5
  have Hb5 := Lib.hid (Hb4.out.trans (hd5.below _))
  clear hd5 HV
  have HM := Lib.hid (rCommittee_any c k A n cA f g w5 (H.out.below Hb5.out).2.2.2 hn HG.out hc)
  generalize bestR (cmF g n k (2 ^ c)) = bb at *
  have hbb := bne_f (a := bb) rfl
  go_wp2_with fail
  refine Ro.use HM.out ?_
  intro w6 hd6
  have Hb6 := Lib.hid (Hb5.out.trans (hd6.below _))
  clear hd6 HM
  go_wp2_with fail
  refine Lr.use (awake_any _) ?_
  intro w7 hb7
  have Hb7 := Lib.hid (Hb6.out.trans (hb7.mono Hb6.out.size))
  clear hb7 hbb
  have HV := Lib.hid (isCommittee_any c k cm hc w7)
  rw [HC.out] at HV
  go_wp2_with fail
  refine Ro.use HV.out ?_
  intro w8 hd8
  have Hb8 := Lib.hid (Hb7.out.trans (hd8.below _))
  clear hd8 HV
  go_wp2
  go_ret
  exact ⟨rfl, Hb8.out⟩

set_option maxHeartbeats 2000000 in
set_option maxRecDepth 1000000 in
theorem voteCommittees_fine (c k : Nat) (A : Option Addr) (n cA : Nat) (f : Nat → Int) (g : Nat → Nat) (cm : Int) (w : World) (h : ArgI w A n cA f) (hok : okAp c k n f = true) (hc : c ≤ 8) (hkc : k ≤ c) (hn1 : 1 ≤ n) (hn : n ≤ 9) (hg : Sets n f g) (hcm : isCm cm c k = true) :
    Calls Try.prog 6 #[.int .i64 c, .int .i64 k, .slice A n cA, .int .i64 cm] w fun e w' => e = .returned (.bool true) ∧ Below w.heap.size w w' := by
  have H := Lib.hid h
  have HK := Lib.hid hok
  have HG := Lib.hid hg
  have HC := Lib.hid hcm
  have HBe : Hid (bestV (cmF g n k (2 ^ c)) = bestR (cmF g n k (2 ^ c))) := Lib.hid (bestV_R hc hkc)
  have hmn : min n 11 = n := by omega
  obtain ⟨m, rfl, hm⟩ : ∃ m : Nat, cm = (m : Int) ∧ m < 256 := by
    unfold isCm isS at hcm
    rw [Bool.and_eq_true, Bool.and_eq_true, decide_eq_true_iff, decide_eq_true_iff] at hcm
    have hM : 2 ^ c ≤ 2 ^ 8 := Nat.pow_le_pow_right (by omega) hc
    exact ⟨cm.toNat, by omega, by omega⟩
  clear h hok hg hcm
  go_enter Try.func6, Try.ntmps6
  go_wp2_with fail
  refine (listV H.out).mono ?_
  rintro e w1 ⟨A1, k1, c1, rfl, hk1, hl1, hc1, hb1⟩
  obtain ⟨A1', c1', e1, hI1⟩ := hl1.sl0
  injection e1 with e1 e2 e3
  subst e1 e3
  rw [hmn] at hk1
  have HM : Hid (Ro 32 #[.int .i64 c, .int .i64 k, .slice A1 k1 c1] w1 (.tuple #[.int .i64 (bestR (cmF g n k (2 ^ c))), .int .i64 0])) := Lib.hid (by
    rw [← HBe.out, hk1]
    rw [hk1] at hI1
    exact Committee_ok c k A1 n c1 f g w1 hI1 hn HG.out hc HK.out)
  have Hb1 := Lib.hid hb1
  clear hk1 hl1 hc1 hb1 hI1 e2
  go_wp2_with fail
  refine Ro.use HM.out ?_
  intro w2 hd2
  have Hb2 := Lib.hid (Hb1.out.trans (hd2.below _))
  clear hd2 HM
  go_wp2_with fail
  refine (listV (H.out.below Hb2.out)).mono ?_
  rintro e w3 ⟨A3, k3, c3, rfl, hk3, hl3, hc3, hb3⟩
  obtain ⟨A3', c3', e1, hI3⟩ := hl3.sl0
  injection e1 with e1 e2 e3
  subst e1 e3
  rw [hmn] at hk3
  have HM : Hid (Ro 33 #[.int .i64 c, .int .i64 k, .slice A3 k3 c3, .int .i64 m] w3 (gpV (gpF g k n m c))) := Lib.hid (by
    rw [hk3]
    rw [hk3] at hI3
    exact Group_ok c k A3 n c3 m f g w3 hI3 hn HG.out hc (by omega) HK.out HC.out)
  obtain ⟨q1, q2, hq⟩ : ∃ q1 q2 : Nat, gpV (gpF g k n m c) = .tuple #[.int .i64 (q1 : Nat), .int .i64 (q2 : Nat)] := by
    unfold gpV
    split
    · exact ⟨0, 4, rfl⟩
    · exact ⟨_, 0, rfl⟩
  rw [hq] at HM
  have HQ := Lib.hid hq
  clear hq
  have Hb3 := Lib.hid (Hb2.out.trans (hb3.mono Hb2.out.size))
  clear hk3 hl3 hc3 hb3 hI3 e2
  go_wp2_with fail
  refine Ro.use HM.out ?_
  intro w4 hd4
  have Hb4 := Lib.hid (Hb3.out.trans (hd4.below _))
  clear hd4 HM
  have HV := Lib.hid (rApprovals_any c k A n cA f w4 (H.out.below Hb4.out))
  rw [HK.out] at HV
  go_wp2_with fail
  refine Ro.use HV.out ?_
  intro w5 hd5
  have Hb5 := Lib.hid (Hb4.out.trans (hd5.below _))
  clear hd5 HV
  have HM := Lib.hid (rCommittee_any c k A n cA f g w5 (H.out.below Hb5.out).2.2.2 hn HG.out hc)
  generalize bestR (cmF g n k (2 ^ c)) = bb at *
  have hbb := bne_f (a := bb) rfl
  go_wp2_with fail
  refine Ro.use HM.out ?_
  intro w6 hd6
  have Hb6 := Lib.hid (Hb5.out.trans (hd6.below _))
  clear hd6 HM
  go_wp2_with fail
  refine Lr.use (awake_any _) ?_
  intro w7 hb7
  have Hb7 := Lib.hid (Hb6.out.trans (hb7.mono Hb6.out.size))
  clear hb7 hbb
  have HV := Lib.hid (isCommittee_any c k (m : Int) hc w7)
  rw [HC.out] at HV
  go_wp2_with fail
  refine Ro.use HV.out ?_
  intro w8 hd8
  have Hb8 := Lib.hid (Hb7.out.trans (hd8.below _))
  clear hd8 HV
  have HM := Lib.hid (rGroup_any c k A n cA m f g w8 (H.out.below Hb8.out).2.2.2 hn1 hn HG.out hc (by omega) hm)
  rw [HQ.out] at HM
  have e1 := beq_t (a := (q1 : Int)) rfl
  have e2 := beq_t (a := (q2 : Int)) rfl
  go_wp2_with fail
  refine Ro.use HM.out ?_
  intro w9 hd9
  have Hb9 := Lib.hid (Hb8.out.trans (hd9.below _))
  clear hd9 HM
  go_wp2
  go_ret
  exact ⟨rfl, Hb9.out⟩

theorem voteCommittees_walk (c k : Int) (A : Option Addr) (n cA : Nat) (f : Nat → Int) (cm : Int) (w : World) (_ : (Lit.int .i64 c).wf = true) (_ : (Lit.int .i64 k).wf = true) (h : ArgI w A n cA f) (_ : (Lit.int .i64 cm).wf = true) :
    Calls Try.prog 6 #[.int .i64 c, .int .i64 k, .slice A n cA, .int .i64 cm] w fun e w' => e = .returned (.bool true) ∧ Below w.heap.size w w' := by
  cases hok : okAp c k n f with
  | false => exact voteCommittees_bad c k A n cA f cm w h hok
  | true =>
    obtain ⟨C, K, rfl, rfl, h1, h2, h3, h4, h5, h6, h7⟩ := okAp_iff hok
    cases hcm : isCm cm C K with
    | false => exact voteCommittees_no C K A n cA f (fun i => (f i).toNat) cm w h hok h2 h4 h5 h6 h7 hcm
    | true => exact voteCommittees_fine C K A n cA f (fun i => (f i).toNat) cm w h hok h2 h4 h5 h6 h7 hcm
end Go.Proofs.Ytahoolibnpbofaa
