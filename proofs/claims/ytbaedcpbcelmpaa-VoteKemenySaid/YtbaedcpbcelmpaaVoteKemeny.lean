/- The law VoteKemeny, walked. -/
import Derived.Test.YtbaedcpbcelmpaaKm
import Derived.Test.YtbaedcpbcelmpaaKr
import Derived.Test.YtbaedcpbcelmpaaLv
import Derived.Test.YtbaedcpbcelmpaaEq
namespace Go.Proofs.Ytbaedcpbcelmpaa
open Go.RowKit

theorem eqB_refl (n : Nat) (f : Nat → Int) : eqB n n f f = true := by
  simp only [eqB, decide_true, Bool.true_and]
  exact allB_t (fun g _ => by simp [eqP])
set_option maxHeartbeats 1000000 in
set_option maxRecDepth 1000000 in
theorem Disagreement_inv (A D : Option Addr) (n cA m cap : Nat) (L : Nat → Nat) (v : Nat → Nat → Int) (w : World) (h : RowsK w A n L v) (hok : okBal n L v = false) (hn : n ≤ 1000) (hL : ∀ i, i < n → L i ≤ 1000) :
    Lr 24 #[.slice A n cA, .slice D m cap] w (.tuple #[.int .i64 0, .int .i64 2]) := by
  have HC := Lib.hid (count_bad A n cA L v w h hok hn hL)
  clear h hok hL
  show Calls _ _ _ _ _
  go_enter Try.func24, Try.ntmps24
  go_wp2_with fail
  refine HC.out.mono ?_
  rintro e w2 ⟨rfl, hb2⟩
  have HZ2 := Lib.hid (PollI.zero w2)
  have Hb3 := Lib.hid (hb2.trans ((zero_below w2).mono hb2.size))
  have hsz := hb2.size
  clear hb2 HC
  go_wp2_with fail
  rw [run_storePoll _ _ _ none 0 0 0 (fun _ => 0) HZ2.out]
  simp only [Result.andThen_ok]
  rw [Oper.upon_skip]
  have HB := Lib.hid (below_setCells (pollL none 0 0 0 (fun _ => 0)) 0 hsz Hb3.out)
  clear HZ2 Hb3
  generalize World.setCells _ w2.heap.size 0 (pollL none 0 0 0 (fun _ => 0)) = W3 at *
  go_wp2
  go_ret2
  exact ⟨rfl, HB.out⟩
theorem DisFinv {n k km cA cap : Nat} {L : Nat → Nat} {v : Nat → Nat → Int} {A D : Option Addr} {w : World} (h : RowsK w A k (fun i => min (L i) 11) v) (hk : k = min n 11) (hok : okBal n L v = false) :
    Lr 24 #[.slice A k cA, .slice D km cap] w (.tuple #[.int .i64 0, .int .i64 2]) := by
  subst hk
  exact Disagreement_inv A D (min n 11) cA km cap (fun i => min (L i) 11) v w h (by rw [okBal_few]; exact hok) (by omega) (fun i hi => by show min (L i) 11 ≤ 1000; omega)
theorem ordB_fewm {c m : Nat} {o : Nat → Int} (hc : c ≤ 5) (h : ordB c m o = false) : ordB c (min m 11) o = false := by
  cases h2 : ordB c (min m 11) o with
  | false => rfl
  | true =>
    obtain ⟨e, hO⟩ := ordB_iff.1 h2
    have : m = c := by omega
    rw [← h, ordB_iff.2 ⟨this, hO⟩]
theorem DisFbad {n m k km cA cap : Nat} {L : Nat → Nat} {v : Nat → Nat → Int} {o : Nat → Int} {A D : Option Addr} {w : World} (h : RowsK w A k (fun i => min (L i) 11) v) (hk : k = min n 11) (hA : k ≤ cA) (hD : Ints w D km o) (hkm : km = min m 11) (hcap : km ≤ cap) (hok : okBal n L v = true) (ho : ordB (L 0) m o = false) :
    Lr 24 #[.slice A k cA, .slice D km cap] w (.tuple #[.int .i64 0, .int .i64 2]) := by
  subst hk hkm
  obtain ⟨e1, e2, e3⟩ := bal_few hok
  obtain ⟨h1, ⟨h2, h3⟩, h4⟩ := okBal_iff.1 hok
  exact Disagreement_bad A D (min n 11) cA (min m 11) cap (fun i => min (L i) 11) v o w h (by rw [okBal_few]; exact hok) hA hD hcap (by omega) (by simp only [e2]; exact ordB_fewm h3 ho)

set_option maxHeartbeats 4000000 in
set_option maxRecDepth 1000000 in
theorem voteKemeny_bad (A : Option Addr) (n c : Nat) (L : Nat → Nat) (v : Nat → Nat → Int) (D : Option Addr) (m cd : Nat) (o : Nat → Int) (w : World) (h : ArgR w A n c L v) (hd : ArgI w D m cd o) (hok : okBal n L v = false) :
    Calls Try.prog 4 #[.slice A n c, .slice D m cd] w fun e w' => e = .returned (.bool true) ∧ Below w.heap.size w w' := by
  have H := Lib.hid h
  have HD := Lib.hid hd
  have HK := Lib.hid hok
  clear h hd hok
  go_enter Try.func4, Try.ntmps4
  go_wp2_with fail
  refine (FewF A n c L v _ H.out).mono ?_
  rintro e w1 ⟨A1, k1, c1, rfl, hk1, hr1, hc1, hb1⟩
  have HR1 := Lib.hid hr1
  have Hk1 := Lib.hid hk1
  have Hc1 := Lib.hid hc1
  have Hb1 := Lib.hid hb1
  clear hk1 hr1 hc1 hb1
  go_wp2_with fail
  refine (listW (HD.out.below Hb1.out)).mono ?_
  rintro e w2 ⟨A2, k2, c2, rfl, hk2, hl2, hc2, hb2⟩
  have HM := Lib.hid (DisFinv (cA := c1) (km := k2) (cap := c2) (D := A2) (HR1.out.keep hb2) Hk1.out HK.out)
  have Hb2 := Lib.hid (Hb1.out.trans (hb2.mono Hb1.out.size))
  clear hk2 hl2 hc2 hb2 HR1 Hk1 Hc1
  go_wp2_with fail
  refine Lr.use HM.out ?_
  intro w3 hb3
  have Hb3 := Lib.hid (Hb2.out.trans (hb3.mono Hb2.out.size))
  clear hb3 HM
  go_wp2_with fail
  refine (FewF A n c L v _ (H.out.below Hb3.out)).mono ?_
  rintro e w4 ⟨A4, k4, c4, rfl, hk4, hr4, hc4, hb4⟩
  have HM := Lib.hid (KemenyFbad (cA := c4) hr4 hk4 HK.out)
  have Hb4 := Lib.hid (Hb3.out.trans (hb4.mono Hb3.out.size))
  clear hk4 hr4 hc4 hb4
  go_wp2_with fail
  refine Lr.use HM.out ?_
  intro w5 hb5
  have Hb5 := Lib.hid (Hb4.out.trans (hb5.mono Hb4.out.size))
  clear hb5 HM
  have HV : Hid (∀ w' : World, Below w.heap.size w w' → Ro 18 #[.slice A n c] w' (.bool false)) := Lib.hid (fun w' hb => by
    have := validR_any A n c L v w' (H.out.below hb)
    rwa [HK.out] at this)
  go_wp2_with fail
  refine Ro.use (HV.out _ Hb5.out) ?_
  intro w6 hd6
  have Hb6 := Lib.hid (Hb5.out.trans (hd6.below _))
  clear hd6
  go_wp2_with fail
  refine Lr.use (awake_any _) ?_
  intro w7 hb7
  have Hb7 := Lib.hid (Hb6.out.trans (hb7.mono Hb6.out.size))
  clear hb7
  go_wp2
  go_ret
  exact ⟨rfl, Hb7.out⟩

set_option maxHeartbeats 4000000 in
set_option maxRecDepth 1000000 in
theorem voteKemeny_ord (A : Option Addr) (n c : Nat) (L : Nat → Nat) (v : Nat → Nat → Int) (D : Option Addr) (m cd : Nat) (o : Nat → Int) (w : World) (h : ArgR w A n c L v) (hd : ArgI w D m cd o) (hok : okBal n L v = true) (hO : ordB (L 0) m o = true) :
    Calls Try.prog 4 #[.slice A n c, .slice D m cd] w fun e w' => e = .returned (.bool true) ∧ Below w.heap.size w w' := by
  have H := Lib.hid h
  have HD := Lib.hid hd
  have HK := Lib.hid hok
  have HO := Lib.hid hO
  obtain ⟨⟨hB1, hB9⟩, ⟨hB2, hB3⟩, hB4⟩ := okBal_iff.1 hok
  obtain ⟨b0, o0, A0, c0, hA0, hc0, hA00⟩ := h.at (show 0 < n by omega)
  subst hA0
  have hc0' : w.cell? ⟨b0, o0, none⟩ = some (.slice A0 (L 0) c0) := hc0
  have HC0 := Lib.hid hc0'
  have hlt0 := World.block_lt_of_cell? _ _ hc0'
  have hnI : (0 : Int) < (n : Int) := by omega
  clear hc0 hc0' hA00 hB1 hB4 hO
  clear h hd hok
  go_enter Try.func4, Try.ntmps4
  go_wp2_with fail
  refine (FewF (some ⟨b0, o0, none⟩) n c L v _ H.out).mono ?_
  rintro e w1 ⟨A1, k1, c1, rfl, hk1, hr1, hc1, hb1⟩
  have HR1 := Lib.hid hr1
  have Hk1 := Lib.hid hk1
  have Hc1 := Lib.hid hc1
  have Hb1 := Lib.hid hb1
  clear hk1 hr1 hc1 hb1
  go_wp2_with fail
  refine (listW (HD.out.below Hb1.out)).mono ?_
  rintro e w2 ⟨A2, k2, c2, rfl, hk2, hl2, hc2, hb2⟩
  have HM := Lib.hid (DisF (cA := c1) (cap := c2) (HR1.out.keep hb2) Hk1.out Hc1.out (ownL_ints hl2) hk2 hc2 HK.out HO.out)
  have Hb2 := Lib.hid (Hb1.out.trans (hb2.mono Hb1.out.size))
  clear hk2 hl2 hc2 hb2 HR1 Hk1 Hc1
  go_wp2_with fail
  refine Lr.use HM.out ?_
  intro w3 hb3
  have Hb3 := Lib.hid (Hb2.out.trans (hb3.mono Hb2.out.size))
  clear hb3 HM
  go_wp2_with fail
  refine (FewF (some ⟨b0, o0, none⟩) n c L v _ (H.out.below Hb3.out)).mono ?_
  rintro e w4 ⟨A4, k4, c4, rfl, hk4, hr4, hc4, hb4⟩
  have HM := Lib.hid (KemenyF (cA := c4) hr4 hk4 hc4 HK.out)
  have Hb4 := Lib.hid (Hb3.out.trans (hb4.mono Hb3.out.size))
  clear hk4 hr4 hc4 hb4
  go_wp2_with fail
  refine HM.out.mono ?_
  rintro e w5 ⟨g, cap, rfl, -, -, hG, hb5⟩
  have HG5 := Lib.hid hG
  have Hb5 := Lib.hid (Hb4.out.trans (hb5.mono Hb4.out.size))
  clear hb5 HM hG
  have HV : Hid (∀ w' : World, Below w.heap.size w w' → Ro 18 #[.slice (some ⟨b0, o0, none⟩) n c] w' (.bool true)) := Lib.hid (fun w' hb => by
    have := validR_any (some ⟨b0, o0, none⟩) n c L v w' (H.out.below hb)
    rwa [HK.out] at this)
  go_wp2_with fail
  refine Ro.use (HV.out _ Hb5.out) ?_
  intro w6 hd6
  have HG6 := Lib.hid (HG5.out.dn hd6)
  have Hb6 := Lib.hid (Hb5.out.trans (hd6.below _))
  clear hd6 HG5
  go_wp2_with fail
  refine (kemenyR_any (some ⟨b0, o0, none⟩) n c L v _ (H.out.below Hb6.out) HK.out).mono ?_
  rintro e w7 ⟨A7, c7, rfl, hI7, hb7⟩
  have HG7 := Lib.hid (HG6.out.keep hb7)
  have HI7 := Lib.hid hI7
  have Hb7 := Lib.hid (Hb6.out.trans (hb7.mono Hb6.out.size))
  have HEq : Hid (∀ w' : World, Below w7.heap.size w7 w' → Ro 22 #[.slice (some ⟨g, 0, none⟩) (L 0) cap, .slice A7 (L 0) c7] w' (.bool true)) := Lib.hid (fun w' hb => by
    have := equal_any (some ⟨g, 0, none⟩) A7 (L 0) (L 0) cap c7 _ _ w' (HG7.out.keep hb).ints (HI7.out.keep hb) (by omega) (by omega)
    rwa [eqB_refl] at this)
  clear hb7 hI7 HG6 HG7 HI7
  have hb00 : Below w7.heap.size w7 w7 := Below.refl _ _
  have HDr : Hid (∀ w' : World, Below w.heap.size w w' → Ro 29 #[.slice (some ⟨b0, o0, none⟩) n c, .slice D m cd] w' (.int .i64 (disS n (mAll v (L 0) n) o (L 0)))) := Lib.hid (fun w' hb => by
    obtain ⟨e1, e2⟩ := ordB_iff.1 HO.out
    have h1 := HD.out.below hb
    have := disR_any (some ⟨b0, o0, none⟩) D n c cd L v o w' (H.out.below hb) HK.out e2 (by rw [← e1]; exact h1.2.2.2) (by rw [← e1]; exact h1.1)
    rwa [← e1] at this ⊢)
  have HOr : Hid (∀ w' : World, Below w.heap.size w w' → Ro 28 #[.slice D m cd, .int .i64 (L 0)] w' (.bool true)) := Lib.hid (fun w' hb => by
    have := isOrderR_any D m cd (L 0) o w' (HD.out.below hb) (by omega)
    rwa [ordR_eq, HO.out] at this)
  have HCell : Hid (∀ w' : World, Below w.heap.size w w' → w'.cell? ⟨b0, o0, none⟩ = some (.slice A0 (L 0) c0)) := Lib.hid (fun w' hb => (hb.cell hlt0).trans HC0.out)
  generalize disS n (mAll v (L 0) n) (rowF (kemL n (mAll v (L 0) n) (L 0))) (L 0) = dk at *
  generalize disS n (mAll v (L 0) n) o (L 0) = dx at *
  have hbb := beq_t (rfl : dk = dk)
  have hbx := beq_t (rfl : dx = dx)
  generalize L 0 = C at *
  go_wp2_with fail
  refine Ro.use (HEq.out _ hb00) ?_
  intro w8 hd8
  have Hb8 := Lib.hid (Hb7.out.trans (hd8.below _))
  clear hd8 hb00
  go_wp2_with fail
  refine Lr.use (awake_any _) ?_
  intro w9 hb9
  have Hb9 := Lib.hid (Hb8.out.trans (hb9.mono Hb8.out.size))
  have hc9 := HCell.out _ Hb9.out
  clear hb9
  go_wp2_with fail
  refine Ro.use (HOr.out _ Hb9.out) ?_
  intro w10 hd10
  have Hb10 := Lib.hid (Hb9.out.trans (hd10.below _))
  clear hd10 hc9
  go_wp2_with fail
  refine Ro.use (HDr.out _ Hb10.out) ?_
  intro w11 hd11
  have Hb11 := Lib.hid (Hb10.out.trans (hd11.below _))
  clear hd11
  go_wp2
  go_ret
  exact ⟨rfl, Hb11.out⟩

set_option maxHeartbeats 4000000 in
set_option maxRecDepth 1000000 in
theorem voteKemeny_not (A : Option Addr) (n c : Nat) (L : Nat → Nat) (v : Nat → Nat → Int) (D : Option Addr) (m cd : Nat) (o : Nat → Int) (w : World) (h : ArgR w A n c L v) (hd : ArgI w D m cd o) (hok : okBal n L v = true) (hO : ordB (L 0) m o = false) :
    Calls Try.prog 4 #[.slice A n c, .slice D m cd] w fun e w' => e = .returned (.bool true) ∧ Below w.heap.size w w' := by
  have H := Lib.hid h
  have HD := Lib.hid hd
  have HK := Lib.hid hok
  have HO := Lib.hid hO
  obtain ⟨⟨hB1, hB9⟩, ⟨hB2, hB3⟩, hB4⟩ := okBal_iff.1 hok
  obtain ⟨b0, o0, A0, c0, hA0, hc0, hA00⟩ := h.at (show 0 < n by omega)
  subst hA0
  have hc0' : w.cell? ⟨b0, o0, none⟩ = some (.slice A0 (L 0) c0) := hc0
  have HC0 := Lib.hid hc0'
  have hlt0 := World.block_lt_of_cell? _ _ hc0'
  have hnI : (0 : Int) < (n : Int) := by omega
  clear hc0 hc0' hA00 hB1 hB4 hO
  clear h hd hok
  go_enter Try.func4, Try.ntmps4
  go_wp2_with fail
  refine (FewF (some ⟨b0, o0, none⟩) n c L v _ H.out).mono ?_
  rintro e w1 ⟨A1, k1, c1, rfl, hk1, hr1, hc1, hb1⟩
  have HR1 := Lib.hid hr1
  have Hk1 := Lib.hid hk1
  have Hc1 := Lib.hid hc1
  have Hb1 := Lib.hid hb1
  clear hk1 hr1 hc1 hb1
  go_wp2_with fail
  refine (listW (HD.out.below Hb1.out)).mono ?_
  rintro e w2 ⟨A2, k2, c2, rfl, hk2, hl2, hc2, hb2⟩
  have HM := Lib.hid (DisFbad (cA := c1) (cap := c2) (HR1.out.keep hb2) Hk1.out Hc1.out (ownL_ints hl2) hk2 hc2 HK.out HO.out)
  have Hb2 := Lib.hid (Hb1.out.trans (hb2.mono Hb1.out.size))
  clear hk2 hl2 hc2 hb2 HR1 Hk1 Hc1
  go_wp2_with fail
  refine Lr.use HM.out ?_
  intro w3 hb3
  have Hb3 := Lib.hid (Hb2.out.trans (hb3.mono Hb2.out.size))
  clear hb3 HM
  go_wp2_with fail
  refine (FewF (some ⟨b0, o0, none⟩) n c L v _ (H.out.below Hb3.out)).mono ?_
  rintro e w4 ⟨A4, k4, c4, rfl, hk4, hr4, hc4, hb4⟩
  have HM := Lib.hid (KemenyF (cA := c4) hr4 hk4 hc4 HK.out)
  have Hb4 := Lib.hid (Hb3.out.trans (hb4.mono Hb3.out.size))
  clear hk4 hr4 hc4 hb4
  go_wp2_with fail
  refine HM.out.mono ?_
  rintro e w5 ⟨g, cap, rfl, -, -, hG, hb5⟩
  have HG5 := Lib.hid hG
  have Hb5 := Lib.hid (Hb4.out.trans (hb5.mono Hb4.out.size))
  clear hb5 HM hG
  have HV : Hid (∀ w' : World, Below w.heap.size w w' → Ro 18 #[.slice (some ⟨b0, o0, none⟩) n c] w' (.bool true)) := Lib.hid (fun w' hb => by
    have := validR_any (some ⟨b0, o0, none⟩) n c L v w' (H.out.below hb)
    rwa [HK.out] at this)
  go_wp2_with fail
  refine Ro.use (HV.out _ Hb5.out) ?_
  intro w6 hd6
  have HG6 := Lib.hid (HG5.out.dn hd6)
  have Hb6 := Lib.hid (Hb5.out.trans (hd6.below _))
  clear hd6 HG5
  go_wp2_with fail
  refine (kemenyR_any (some ⟨b0, o0, none⟩) n c L v _ (H.out.below Hb6.out) HK.out).mono ?_
  rintro e w7 ⟨A7, c7, rfl, hI7, hb7⟩
  have HG7 := Lib.hid (HG6.out.keep hb7)
  have HI7 := Lib.hid hI7
  have Hb7 := Lib.hid (Hb6.out.trans (hb7.mono Hb6.out.size))
  have HEq : Hid (∀ w' : World, Below w7.heap.size w7 w' → Ro 22 #[.slice (some ⟨g, 0, none⟩) (L 0) cap, .slice A7 (L 0) c7] w' (.bool true)) := Lib.hid (fun w' hb => by
    have := equal_any (some ⟨g, 0, none⟩) A7 (L 0) (L 0) cap c7 _ _ w' (HG7.out.keep hb).ints (HI7.out.keep hb) (by omega) (by omega)
    rwa [eqB_refl] at this)
  clear hb7 hI7 HG6 HG7 HI7
  have hb00 : Below w7.heap.size w7 w7 := Below.refl _ _
  have HOr : Hid (∀ w' : World, Below w.heap.size w w' → Ro 28 #[.slice D m cd, .int .i64 (L 0)] w' (.bool false)) := Lib.hid (fun w' hb => by
    have := isOrderR_any D m cd (L 0) o w' (HD.out.below hb) (by omega)
    rwa [ordR_eq, HO.out] at this)
  have HCell : Hid (∀ w' : World, Below w.heap.size w w' → w'.cell? ⟨b0, o0, none⟩ = some (.slice A0 (L 0) c0)) := Lib.hid (fun w' hb => (hb.cell hlt0).trans HC0.out)
  generalize disS n (mAll v (L 0) n) (rowF (kemL n (mAll v (L 0) n) (L 0))) (L 0) = dk at *
  have hbb := beq_t (rfl : dk = dk)
  generalize L 0 = C at *
  go_wp2_with fail
  refine Ro.use (HEq.out _ hb00) ?_
  intro w8 hd8
  have Hb8 := Lib.hid (Hb7.out.trans (hd8.below _))
  clear hd8 hb00
  go_wp2_with fail
  refine Lr.use (awake_any _) ?_
  intro w9 hb9
  have Hb9 := Lib.hid (Hb8.out.trans (hb9.mono Hb8.out.size))
  have hc9 := HCell.out _ Hb9.out
  clear hb9
  go_wp2_with fail
  refine Ro.use (HOr.out _ Hb9.out) ?_
  intro w10 hd10
  have Hb10 := Lib.hid (Hb9.out.trans (hd10.below _))
  clear hd10 hc9
  go_wp2
  go_ret
  exact ⟨rfl, Hb10.out⟩

theorem voteKemeny_walk (A : Option Addr) (n c : Nat) (L : Nat → Nat) (v : Nat → Nat → Int) (D : Option Addr) (m cd : Nat) (o : Nat → Int) (w : World) (h : ArgR w A n c L v) (hd : ArgI w D m cd o) :
    Calls Try.prog 4 #[.slice A n c, .slice D m cd] w fun e w' => e = .returned (.bool true) ∧ Below w.heap.size w w' := by
  cases hok : okBal n L v with
  | false => exact voteKemeny_bad A n c L v D m cd o w h hd hok
  | true =>
    cases hO : ordB (L 0) m o with
    | false => exact voteKemeny_not A n c L v D m cd o w h hd hok hO
    | true => exact voteKemeny_ord A n c L v D m cd o w h hd hok hO
end Go.Proofs.Ytbaedcpbcelmpaa
