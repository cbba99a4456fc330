/- The law VoteRepresents, walked. -/
import Derived.Test.YtahoolibnpbofaaJr
import Derived.Test.YtahoolibnpbofaaVoteCommittees
namespace Go.Proofs.Ytahoolibnpbofaa
open Go.RowKit

theorem best_none {g : Nat → Nat} {c k n b : Nat} (hc : c ≤ 8) (hn1 : 1 ≤ n) (hn : n ≤ 9) (hb : cmF g n k (2 ^ c) = some b) : gpV (gpF g k n b c) = .tuple #[.int .i64 0, .int .i64 4] := by
  obtain ⟨h1, h2⟩ := cmF_best _ _ hb
  have hlt := cmF_lt _ _ _ _ _ hb
  have hI := gpF_inv g k n b c
  rcases hI.fst with h0 | ⟨x, hx, e1, e2, e3⟩
  · unfold gpV
    rw [h0]
    rfl
  · exfalso
    rw [e1] at e3
    have := best_free hc hn hlt h1 h2 hx e3
    rw [this] at e3
    omega
theorem best_cm {g : Nat → Nat} {c k n b : Nat} (hb : cmF g n k (2 ^ c) = some b) : isCm (b : Int) c k = true := by
  obtain ⟨h1, _⟩ := cmF_best _ _ hb
  have hlt := cmF_lt _ _ _ _ _ hb
  unfold isCm isS
  rw [Int.toNat_natCast, decide_eq_true (p := (0 : Int) ≤ (b : Int)) (by omega), decide_eq_true (p := (b : Int) < ((2 ^ c : Nat) : Int)) (by omega), decide_eq_true h1]
  rfl
theorem and_neg : ∀ y : Nat, y < 256 → bits .and .i64 (-1) (y : Int) = (y : Int) := by decide +kernel
/-- What the members have in common still has x. -/
def HasB (x : Nat) (v : Int) : Prop := v = -1 ∨ ∃ C : Nat, v = (C : Int) ∧ C < 256 ∧ bitN C x = true
theorem HasB.and {x : Nat} {v : Int} (h : HasB x v) {y : Nat} (hy : y < 256) (hb : bitN y x = true) : HasB x (bits .and .i64 v (y : Int)) := by
  rcases h with rfl | ⟨C, rfl, hC, hCb⟩
  · exact .inr ⟨y, and_neg y hy, hy, hb⟩
  · refine .inr ⟨C &&& y, and_nat C y (by omega) (by omega), ?_, by rw [bitN_and, hCb, hb]; rfl⟩
    have : C &&& y ≤ C := Nat.and_le_left
    omega
theorem cntN_le (p : Nat → Bool) : ∀ n, cntN p n ≤ n := by
  intro n
  induction n with
  | zero => exact Nat.le_refl _
  | succ n ih =>
    simp only [cntN]
    split <;> omega
theorem HasB.ne {x : Nat} {v : Int} (h : HasB x v) : v ≠ 0 := by
  rcases h with rfl | ⟨C, rfl, hC, hCb⟩
  · decide
  · intro e
    have : C = 0 := by omega
    rw [this, bitN_zero] at hCb
    cases hCb

set_option maxHeartbeats 2000000 in
set_option maxRecDepth 1000000 in
theorem voteRepresents_bad (c k : Int) (A : Option Addr) (n cA : Nat) (f : Nat → Int) (cm : Int) (w : World) (h : ArgI w A n cA f) (hok : okAp c k n f = false) :
    Calls Try.prog 10 #[.int .i64 c, .int .i64 k, .slice A n cA, .int .i64 cm] w fun e w' => e = .returned (.bool true) ∧ Below w.heap.size w w' := by
  have H := Lib.hid h
  have HK := Lib.hid hok
  have HK2 := Lib.hid ((okAp_few c k n f).trans hok)
  clear h hok
  go_enter Try.func10, Try.ntmps10
  go_wp2_with fail
  refine (listV H.out).mono ?_
  rintro e w1 ⟨A1, k1, c1, rfl, hk1, hl1, hc1, hb1⟩
  obtain ⟨A1', c1', e1, hI1⟩ := hl1.sl0
  injection e1 with e1 e2 e3
  subst e1 e3
  have HM := Lib.hid (Committee_bad c k A1 k1 c1 f w1 hI1 (by omega) (by rw [hk1]; exact HK2.out))
  have Hb1 := Lib.hid hb1
  clear hk1 hl1 hc1 hb1 hI1 e2
  go_wp2_with fail
  refine Ro.use HM.out ?_
  intro w2 hd2
  have Hb2 := Lib.hid (Hb1.out.trans (hd2.below _))
  clear hd2 HM
  go_wp2_with fail
  refine Lr.use (awake_any _) ?_
  intro w3 hb3
  have Hb3 := Lib.hid (Hb2.out.trans (hb3.mono Hb2.out.size))
  clear hb3
  go_wp2
  go_ret
  exact ⟨rfl, Hb3.out⟩

set_option maxHeartbeats 2000000 in
set_option maxRecDepth 1000000 in
theorem voteRepresents_none (c k : Nat) (A : Option Addr) (n cA : Nat) (f : Nat → Int) (g : Nat → Nat) (cm q : Int) (w : World) (h : ArgI w A n cA f) (hok : okAp c k n f = true) (hc : c ≤ 8) (hkc : k ≤ c) (hn1 : 1 ≤ n) (hn : n ≤ 9) (hg : Sets n f g) (hq : q = 2 ∨ q = 4)
    (hgr : ∀ (A3 : Option Addr) (c3 : Nat) (w3 : World), Ints w3 A3 n f → Ro 33 #[.int .i64 c, .int .i64 k, .slice A3 n c3, .int .i64 cm] w3 (.tuple #[.int .i64 0, .int .i64 q])) :
    Calls Try.prog 10 #[.int .i64 c, .int .i64 k, .slice A n cA, .int .i64 cm] w fun e w' => e = .returned (.bool true) ∧ Below w.heap.size w w' := by
  have H := Lib.hid h
  have HK := Lib.hid hok
  have HG := Lib.hid hg
  have hmn : min n 11 = n := by omega
  obtain ⟨p1, p2⟩ := pc_all c (by omega) k hkc
  obtain ⟨b, hb⟩ := cmF_some g n k p1 (2 ^ c) p2
  have HCb := Lib.hid (best_cm hb)
  have HN := Lib.hid (best_none hc hn1 hn hb)
  have HE : Hid (bestV (cmF g n k (2 ^ c)) = (b : Int)) := Lib.hid (by rw [hb]; rfl)
  have hb8 : b < 256 := by
    have h1 := cmF_lt g n k _ _ hb
    have h2 : 2 ^ c ≤ 2 ^ 8 := Nat.pow_le_pow_right (by omega) hc
    omega
  clear h hok hg hb p1 p2
  have HR := Lib.hid hgr
  clear hgr
  go_enter Try.func10, Try.ntmps10
  go_wp2_with fail
  refine (listV H.out).mono ?_
  rintro e w1 ⟨A1, k1, c1, rfl, hk1, hl1, hc1, hb1⟩
  obtain ⟨A1', c1', e1, hI1⟩ := hl1.sl0
  injection e1 with e1 e2 e3
  subst e1 e3
  rw [hmn] at hk1
  rw [hk1] at hI1 ⊢
  have HM := Lib.hid (show Ro 32 #[.int .i64 c, .int .i64 k, .slice A1 n c1] w1 (.tuple #[.int .i64 (b : Nat), .int .i64 0]) from by rw [← HE.out]; exact Committee_ok c k A1 n c1 f g w1 hI1 hn HG.out hc HK.out)
  have Hb1 := Lib.hid (hb1)
  clear hk1 hl1 hc1 hb1 hI1 e2
  go_wp2_with fail
  refine Ro.use HM.out ?_
  intro w2 hd2
  have Hb2 := Lib.hid (Hb1.out.trans (hd2.below _))
  clear hd2 HM
  go_wp2_with fail
  refine (listV (H.out.below Hb2.out)).mono ?_
  rintro e w3 ⟨A3, k3, c3, rfl, hk3, hl3, hc3, hb3⟩
  obtain ⟨A3', c3', e1, hI3⟩ := hl3.sl0
  injection e1 with e1 e2 e3
  subst e1 e3
  rw [hmn] at hk3
  rw [hk3] at hI3 ⊢
  have HM := Lib.hid (show Ro 33 #[.int .i64 c, .int .i64 k, .slice A3 n c3, .int .i64 b] w3 (.tuple #[.int .i64 0, .int .i64 4]) from by rw [← HN.out]; exact Group_ok c k A3 n c3 b f g w3 hI3 hn HG.out hc (by omega) HK.out HCb.out)
  have Hb3 := Lib.hid (Hb2.out.trans (hb3.mono Hb2.out.size))
  clear hk3 hl3 hc3 hb3 hI3 e2
  go_wp2_with fail
  refine Ro.use HM.out ?_
  intro w4 hd4
  have Hb4 := Lib.hid (Hb3.out.trans (hd4.below _))
  clear hd4 HM
  go_wp2_with fail
  refine (listV (H.out.below Hb4.out)).mono ?_
  rintro e w5 ⟨A5, k5, c5, rfl, hk5, hl5, hc5, hb5⟩
  obtain ⟨A5', c5', e1, hI5⟩ := hl5.sl0
  injection e1 with e1 e2 e3
  subst e1 e3
  rw [hmn] at hk5
  rw [hk5] at hI5 ⊢
  have HM := Lib.hid (HR.out A5 c5 w5 hI5)
  have Hb5 := Lib.hid (Hb4.out.trans (hb5.mono Hb4.out.size))
  clear hk5 hl5 hc5 hb5 hI5 e2
  go_wp2_with fail
  refine Ro.use HM.out ?_
  intro w6 hd6
  have Hb6 := Lib.hid (Hb5.out.trans (hd6.below _))
  clear hd6 HM
  rcases hq with rfl | rfl
  all_goals
    go_wp2_with fail
    refine Lr.use (awake_any _) ?_
    intro w7 hb7
    have Hb7 := Lib.hid (Hb6.out.trans (hb7.mono Hb6.out.size))
    clear hb7
    go_wp2
    go_ret
    exact ⟨rfl, Hb7.out⟩

set_option maxHeartbeats 2000000 in
set_option maxRecDepth 1000000 in
theorem voteRepresents_fine (c k : Nat) (A : Option Addr) (n cA : Nat) (f : Nat → Int) (g : Nat → Nat) (cm x q : Nat) (w : World) (h : ArgI w A n cA f) (hok : okAp c k n f = true) (hc : c ≤ 8) (hkc : k ≤ c) (hn1 : 1 ≤ n) (hn : n ≤ 9) (hg : Sets n f g) (hcm : cm < 256)
    (hmem : ∀ i, i < n → bitN q i = true → bitN (g i) x = true ∧ g i &&& cm = 0) (hcnt : 0 < cntN (bitN q) n) (hbig : n ≤ cntN (bitN q) n * k)
    (hgr : ∀ (A3 : Option Addr) (c3 : Nat) (w3 : World), Ints w3 A3 n f → Ro 33 #[.int .i64 c, .int .i64 k, .slice A3 n c3, .int .i64 cm] w3 (.tuple #[.int .i64 q, .int .i64 0])) :
    Calls Try.prog 10 #[.int .i64 c, .int .i64 k, .slice A n cA, .int .i64 cm] w fun e w' => e = .returned (.bool true) ∧ Below w.heap.size w w' := by
  have H := Lib.hid h
  have HK := Lib.hid hok
  have HG := Lib.hid hg
  have hmn : min n 11 = n := by omega
  obtain ⟨p1, p2⟩ := pc_all c (by omega) k hkc
  obtain ⟨b, hb⟩ := cmF_some g n k p1 (2 ^ c) p2
  have HCb := Lib.hid (best_cm hb)
  have HN := Lib.hid (best_none hc hn1 hn hb)
  have HE : Hid (bestV (cmF g n k (2 ^ c)) = (b : Int)) := Lib.hid (by rw [hb]; rfl)
  have hb8 : b < 256 := by
    have h1 := cmF_lt g n k _ _ hb
    have h2 : 2 ^ c ≤ 2 ^ 8 := Nat.pow_le_pow_right (by omega) hc
    omega
  clear h hok hg hb p1 p2
  have HR := Lib.hid hgr
  have HMe := Lib.hid hmem
  clear hgr hmem
  go_enter Try.func10, Try.ntmps10
  go_wp2_with fail
  refine (listV H.out).mono ?_
  rintro e w1 ⟨A1, k1, c1, rfl, hk1, hl1, hc1, hb1⟩
  obtain ⟨A1', c1', e1, hI1⟩ := hl1.sl0
  injection e1 with e1 e2 e3
  subst e1 e3
  rw [hmn] at hk1
  rw [hk1] at hI1 ⊢
  have HM := Lib.hid (show Ro 32 #[.int .i64 c, .int .i64 k, .slice A1 n c1] w1 (.tuple #[.int .i64 (b : Nat), .int .i64 0]) from by rw [← HE.out]; exact Committee_ok c k A1 n c1 f g w1 hI1 hn HG.out hc HK.out)
  have Hb1 := Lib.hid (hb1)
  clear hk1 hl1 hc1 hb1 hI1 e2
  go_wp2_with fail
  refine Ro.use HM.out ?_
  intro w2 hd2
  have Hb2 := Lib.hid (Hb1.out.trans (hd2.below _))
  clear hd2 HM
  go_wp2_with fail
  refine (listV (H.out.below Hb2.out)).mono ?_
  rintro e w3 ⟨A3, k3, c3, rfl, hk3, hl3, hc3, hb3⟩
  obtain ⟨A3', c3', e1, hI3⟩ := hl3.sl0
  injection e1 with e1 e2 e3
  subst e1 e3
  rw [hmn] at hk3
  rw [hk3] at hI3 ⊢
  have HM := Lib.hid (show Ro 33 #[.int .i64 c, .int .i64 k, .slice A3 n c3, .int .i64 b] w3 (.tuple #[.int .i64 0, .int .i64 4]) from by rw [← HN.out]; exact Group_ok c k A3 n c3 b f g w3 hI3 hn HG.out hc (by omega) HK.out HCb.out)
  have Hb3 := Lib.hid (Hb2.out.trans (hb3.mono Hb2.out.size))
  clear hk3 hl3 hc3 hb3 hI3 e2
  go_wp2_with fail
  refine Ro.use HM.out ?_
  intro w4 hd4
  have Hb4 := Lib.hid (Hb3.out.trans (hd4.below _))
  clear hd4 HM
  go_wp2_with fail
  refine (listV (H.out.below Hb4.out)).mono ?_
  rintro e w5 ⟨A5, k5, c5, rfl, hk5, hl5, hc5, hb5⟩
  obtain ⟨A5', c5', e1, hI5⟩ := hl5.sl0
  injection e1 with e1 e2 e3
  subst e1 e3
  rw [hmn] at hk5
  rw [hk5] at hI5 ⊢
  have HM := Lib.hid (HR.out A5 c5 w5 hI5)
  have Hb5 := Lib.hid (Hb4.out.trans (hb5.mono Hb4.out.size))
  clear hk5 hl5 hc5 hb5 hI5 e2
  go_wp2_with fail
  refine Ro.use HM.out ?_
  intro w6 hd6
  have Hb6 := Lib.hid (Hb5.out.trans (hd6.below _))
  clear hd6 HM
  go_wp2
  go_loopw [15, 16, 71] (fun nn cc i wr => ∃ (j : Nat) (v : Int), j ≤ n ∧ i = .int .i64 j ∧ nn = .int .i64 (cntN (bitN q) j : Nat) ∧ cc = .int .i64 v ∧ HasB x v ∧ Below w.heap.size w wr) (fun _ _ i _ => n - (intOf i).toNat)
  case atStart => exact ⟨0, -1, Nat.zero_le _, rfl, rfl, rfl, .inl rfl, Hb6.out⟩
  case round =>
    obtain ⟨j, v, hj, rfl, rfl, rfl, hv, hB⟩ := hrel
    have HV := Lib.hid hv
    have HB := Lib.hid hB
    clear hv hB
    have hcl : cntN (bitN q) j ≤ j := cntN_le _ j
    have HS1 : Hid (bitN q j = true → cntN (bitN q) (j + 1) = cntN (bitN q) j + 1) := Lib.hid (fun h => by simp only [cntN, h, if_true])
    have HS0 : Hid (bitN q j = false → cntN (bitN q) (j + 1) = cntN (bitN q) j) := Lib.hid (fun h => by simp [cntN, h])
    by_cases hlt : j < n
    · obtain ⟨b', o, rfl, hcc⟩ := (H.out.below HB.out).2.2.2.at hlt
      obtain ⟨hfj, hgj⟩ := HG.out j hlt
      rw [hfj] at hcc
      have hb1 := bit_one q j
      generalize cntN (bitN q) j = N at *
      clear hfj hcnt hbig
      cases hb : bitN q j with
      | false =>
        have HE := Lib.hid (HS0.out hb)
        rw [hb] at hb1
        clear hb
        go_wp2
        go_roundw
        case rel => exact ⟨j + 1, v, by omega, by go_num, by rw [HE.out], rfl, HV.out, HB.out⟩
        case measure => simp [intOf]; omega
      | true =>
        have HE := Lib.hid (HS1.out hb)
        obtain ⟨m1, m2⟩ := HMe.out j hlt hb
        have HV2 := Lib.hid (HV.out.and hgj m1)
        have hn0 : (bits .and .i64 ((g j : Nat) : Int) (cm : Int) != 0) = false := by rw [and_nat (g j) cm (by omega) (by omega), m2]; rfl
        rw [hb] at hb1
        clear hb m1 m2
        go_wp2
        go_roundw
        case rel => exact ⟨j + 1, _, by omega, by go_num, by rw [HE.out]; exact val_int (by omega), rfl, HV2.out, HB.out⟩
        case measure => simp [intOf]; omega
    · have hjn : j = n := by omega
      rw [hjn] at hcl ⊢
      clear hjn hlt hj HS0 HS1
      have hne := HV.out.ne
      have e2 := bne_t (a := v) (b := 0) hne
      clear hne
      generalize cntN (bitN q) n = N at *
      have hmul : wrap64 ((N : Int) * (k : Int)) = ((N * k : Nat) : Int) := by
        have e : ((N * k : Nat) : Int) = (N : Int) * (k : Int) := by push_cast; rfl
        have h1 : N * k ≤ 9 * 8 := Nat.mul_le_mul (by omega) (by omega)
        rw [← e]
        exact IntWalk.wrap64_in _ ⟨by omega, by omega⟩
      generalize N * k = Nk at *
      go_wp2_with fail
      refine Lr.use (awake_any _) ?_
      intro w7 hb7
      have Hb7 := Lib.hid (HB.out.trans (hb7.mono HB.out.size))
      clear hb7
      go_wp2
      go_ret
      exact ⟨rfl, Hb7.out⟩

theorem cnt_low {q n : Nat} (hn : n ≤ 9) (hq : q < 2 ^ n) : pcN q = cntN (bitN q) n := by
  rw [pcN_cnt]
  have h2 : ∀ m, n + m ≤ 9 → cntN (bitN q) (n + m) = cntN (bitN q) n := by
    intro m
    induction m with
    | zero => exact fun _ => rfl
    | succ m ih =>
      intro hm
      have e2 := bit_low n (by omega) q hq (n + m) (by omega) (by omega)
      show cntN (bitN q) (n + m) + (if bitN q (n + m) = true then 1 else 0) = _
      rw [e2, ih (by omega)]
      rfl
  have := h2 (9 - n) (by omega)
  rwa [show n + (9 - n) = 9 by omega] at this
theorem voteRepresents_walk (c k : Int) (A : Option Addr) (n cA : Nat) (f : Nat → Int) (cm : Int) (w : World) (_ : (Lit.int .i64 c).wf = true) (_ : (Lit.int .i64 k).wf = true) (h : ArgI w A n cA f) (_ : (Lit.int .i64 cm).wf = true) :
    Calls Try.prog 10 #[.int .i64 c, .int .i64 k, .slice A n cA, .int .i64 cm] w fun e w' => e = .returned (.bool true) ∧ Below w.heap.size w w' := by
  cases hok : okAp c k n f with
  | false => exact voteRepresents_bad c k A n cA f cm w h hok
  | true =>
    obtain ⟨C, K, rfl, rfl, h1, h2, h3, h4, h5, h6, h7⟩ := okAp_iff hok
    cases hcm : isCm cm C K with
    | false => exact voteRepresents_none C K A n cA f (fun i => (f i).toNat) cm 2 w h hok h2 h4 h5 h6 h7 (.inl rfl) (fun A3 c3 w3 hI => Group_no C K A3 n c3 f cm w3 hI h6 h2 hok hcm)
    | true =>
      obtain ⟨m, rfl, hm⟩ : ∃ m : Nat, cm = (m : Int) ∧ m < 256 := by
        have hcm' := hcm
        unfold isCm isS at hcm'
        rw [Bool.and_eq_true, Bool.and_eq_true, decide_eq_true_iff, decide_eq_true_iff] at hcm'
        have hM : 2 ^ C ≤ 2 ^ 8 := Nat.pow_le_pow_right (by omega) h2
        exact ⟨cm.toNat, by omega, by omega⟩
      have hGr : ∀ (A3 : Option Addr) (c3 : Nat) (w3 : World), Ints w3 A3 n f → Ro 33 #[.int .i64 C, .int .i64 K, .slice A3 n c3, .int .i64 m] w3 (gpV (gpF (fun i => (f i).toNat) K n m C)) := fun A3 c3 w3 hI => Group_ok C K A3 n c3 m f (fun i => (f i).toNat) w3 hI h6 h7 h2 (by omega) hok hcm
      have hI := gpF_inv (fun i => (f i).toNat) K n m C
      rcases hI.fst with h0 | ⟨x, hx, e1, e2, e3⟩
      · refine voteRepresents_none C K A n cA f (fun i => (f i).toNat) (m : Int) 4 w h hok h2 h4 h5 h6 h7 (.inr rfl) (fun A3 c3 w3 hI => ?_)
        have := hGr A3 c3 w3 hI
        rw [h0] at this
        exact this
      · have hwl := woN_lt (fun i => (f i).toNat) x m n
        rw [← e1] at hwl
        have hcn := cnt_low h6 hwl
        have hp : pcN (gpF (fun i => (f i).toNat) K n m C).1 ≠ 0 := by
          intro h0
          rw [h0, Nat.zero_mul] at e3
          omega
        refine voteRepresents_fine C K A n cA f (fun i => (f i).toNat) m x (gpF (fun i => (f i).toNat) K n m C).1 w h hok h2 h4 h5 h6 h7 hm (fun i hi hb => ?_) (by omega) (by rw [← hcn]; exact e3) (fun A3 c3 w3 hI => ?_)
        · rw [e1, woN_bit (fun i => (f i).toNat) x m n h6 i (by omega)] at hb
          unfold woC at hb
          simp only [Bool.and_eq_true, decide_eq_true_iff] at hb
          exact hb.2
        · have := hGr A3 c3 w3 hI
          unfold gpV at this
          rw [if_neg (by rw [e2]; exact hp)] at this
          exact this
end Go.Proofs.Ytahoolibnpbofaa
