/- Part of the proof: YK. -/
import Derived.Test.YtiigcjcolpmafaaYF
/- The reference's Good, best, First and Last; the program's asGood. -/
namespace Go.Proofs.Ytiigcjcolpmafaa
open Go.RowKit

/-- At least as good for the hands. -/
def goB (p : PlanD) (a b : Nat → Int) : Bool := allB (fun h => decide (rHd p h (a h) ≤ rHd p h (b h))) p.nH
theorem goB_iff {p : PlanD} {a b : Nat → Int} : goB p a b = true ↔ ∀ h, h < p.nH → rHd p h (a h) ≤ rHd p h (b h) := by
  unfold goB
  rw [allB_iff]
  simp only [decide_eq_true_iff]
theorem Stb.lik {p : PlanD} {a b : Nat → Int} (hok : okPlan p = true) (ha : Stb p a) (hb : Stb p b) {h : Nat} (hh : h < p.nH) : likB p h (b h) (a h) = decide (rHd p h (b h) < rHd p h (a h)) :=
  lik_rk hok hh ((hb.mat h hh).imp id (fun e => (poss_if2.1 e).1)) ((ha.mat h hh).imp id (fun e => (poss_if2.1 e).1))
set_option maxHeartbeats 2000000 in
set_option maxRecDepth 1000000 in
theorem Good_any (AH AS AP DA DB : Option Addr) (cH cS cP ca nb cb : Nat) (p : PlanD) (a b : Nat → Int) (w : World) (hp : PlanArg w AH AS AP cH cS cP p) (ha : Ints w DA p.nH a) (hb : Ints w DB nb b) (hnb : nb = p.nH) (hok : okPlan p = true) (hsa : Stb p a) (hsb : Stb p b) :
    Lr 79 #[.agg #[.slice AH p.nH cH, .slice AS p.nS cS, .slice AP p.nP cP], .slice DA p.nH ca, .slice DB nb cb] w (.bool (goB p a b)) := by
  subst hnb
  have Hb0 := Lib.hid (below_box w (.cells #[.slice AH p.nH cH, .slice AS p.nS cS, .slice AP p.nP cP] 25))
  have HB0 := Lib.hid (BoxP.newR w AH AS AP p.nH p.nS p.nP cH cS cP)
  have HP := Lib.hid (hp.keep Hb0.out)
  have HA := Lib.hid (ha.keep Hb0.out)
  have HB := Lib.hid (hb.keep Hb0.out)
  have hn6 : p.nH ≤ 6 := (okPlan_of hok).1.2.1
  have HOk := Lib.hid hok
  have HLk := Lib.hid (fun h (hh : h < p.nH) => Stb.lik hok hsa hsb hh)
  have HDf : Hid (goB p a b = allB (fun h => decide (rHd p h (a h) ≤ rHd p h (b h))) p.nH) := Lib.hid rfl
  obtain ⟨W, hW⟩ : ∃ W, W = w.alloc (.cells #[.slice AH p.nH cH, .slice AS p.nS cS, .slice AP p.nP cP] 25) := ⟨_, rfl⟩
  rw [← hW] at Hb0 HB0 HP HA HB
  have HWW : Hid (w.alloc (.cells #[.slice AH p.nH cH, .slice AS p.nS cS, .slice AP p.nP cP] 25) = W) := Lib.hid hW.symm
  clear hp ha hb hok hW hsa hsb
  show Calls _ _ _ _ _
  go_enter Try.func79, Try.ntmps79
  go_wp2_with fail
  rw [HWW.out]
  clear HWW
  go_wp2
  go_loopw [10] (fun i wr => ∃ k : Nat, k ≤ p.nH ∧ i = .int .i64 k ∧ (∀ x, x < k → rHd p x (a x) ≤ rHd p x (b x)) ∧ Below W.heap.size W wr) (fun i _ => p.nH - (intOf i).toNat)
  case atStart => exact ⟨0, Nat.zero_le _, rfl, fun x hx => absurd hx (Nat.not_lt_zero _), Below.refl _ _⟩
  case round =>
    obtain ⟨k, hk, rfl, hA, hB⟩ := hrel
    have HAl := Lib.hid hA
    have HBl := Lib.hid hB
    clear hA hB
    by_cases hlt : k < p.nH
    · obtain ⟨y0, y1, y2⟩ := HB0.out.keep HBl.out
      obtain ⟨ba, oa, rfl, ca'⟩ := (HA.out.keep HBl.out).at hlt
      obtain ⟨bb, ob, rfl, cb'⟩ := (HB.out.keep HBl.out).at hlt
      have hA1 := Lib.hid (fun q : Later wr => likes_any AH AS AP cH cS cP p k (b k) (a k) q.to ((HP.out.keep HBl.out).keep q.below).hands.rows HOk.out hlt)
      have HLk2 := HLk.out k hlt
      have HNx : Hid (¬ rHd p k (b k) < rHd p k (a k) → ∀ x, x < k + 1 → rHd p x (a x) ≤ rHd p x (b x)) := Lib.hid (fun h x hx => by
        by_cases e : x = k
        · rw [e]; omega
        · exact HAl.out x (by omega))
      have HFa : Hid (rHd p k (b k) < rHd p k (a k) → goB p a b = false) := Lib.hid (fun h => by
        rw [HDf.out]
        exact allB_f hlt (decide_eq_false (by omega)))
      generalize likB p k (b k) (a k) = lk at *
      generalize a k = av at *
      generalize b k = bv at *
      have hki : (k : Int) < p.nH := by omega
      have HLk3 := Lib.hid HLk2
      clear HLk2
      go_wp2_with fail
      refine wp_region_later (by kernel_rfl) (by kernel_rfl) ?_
      have k0 : ∀ q : Later wr, q.to.cell? ⟨w.heap.size, 0, none⟩ = some (.slice AH p.nH cH) := fun q => q.cell y0
      have k1 : ∀ q : Later wr, q.to.cell? ⟨w.heap.size, 1, none⟩ = some (.slice AS p.nS cS) := fun q => q.cell y1
      have k4 : ∀ q : Later wr, q.to.cell? ⟨w.heap.size, 2, none⟩ = some (.slice AP p.nP cP) := fun q => q.cell y2
      have k2 : ∀ q : Later wr, q.to.cell? ⟨ba, oa + k, none⟩ = some (.int .i64 av) := fun q => q.cell ca'
      have k3 : ∀ q : Later wr, q.to.cell? ⟨bb, ob + k, none⟩ = some (.int .i64 bv) := fun q => q.cell cb'
      clear y0 y1 y2 cb' ca'
      repeat
        (with_reducible refine wpQuiet_step ?_
         intro K hK
         go_simp
         first
           | (refine hK _ ?_; clear hK K)
           | (apply Exists.intro
              refine ⟨fun _ => ?_, hK _ ?_⟩
              (go_at_call 76; exact Lr.later (hA1.out _))
              clear hK K))
      with_reducible refine wpQuiet_nil ?_
      intro _ hw'
      obtain ⟨q, rfl⟩ := hw'
      have HB2 := Lib.hid (HBl.out.trans (q.below.mono HBl.out.size))
      clear k0 k1 k2 k3 k4
      generalize q.to = wy at *
      cases hlk : lk with
      | false =>
        have HS2 := Lib.hid (HNx.out (by
          have := HLk3.out
          rw [hlk] at this
          have := of_decide_eq_false this.symm
          omega))
        clear hlk
        go_wp2
        first
          | exact ⟨⟨k + 1, by omega, by go_num, HS2.out, HB2.out⟩, by simp [intOf]; omega⟩
          | (go_roundw
             case rel => exact ⟨k + 1, by omega, by go_num, HS2.out, HB2.out⟩
             case measure => simp [intOf]; omega)
      | true =>
        have E := Lib.hid (HFa.out (by
          have := HLk3.out
          rw [hlk] at this
          have := of_decide_eq_true this.symm
          omega))
        clear hlk
        go_wp2
        go_ret
        exact ⟨ret_bool E.out.symm, Hb0.out.trans (HB2.out.mono Hb0.out.size)⟩
    · obtain rfl : k = p.nH := by omega
      have E : Hid (goB p a b = true) := Lib.hid (by
        rw [HDf.out]
        exact allB_t (fun x hx => decide_eq_true (HAl.out x hx)))
      go_wp2
      go_ret
      exact ⟨ret_bool E.out.symm, Hb0.out.trans (HBl.out.mono Hb0.out.size)⟩

set_option maxHeartbeats 2000000 in
set_option maxRecDepth 1000000 in
theorem asGood_any (AH AS AP DA DB : Option Addr) (cH cS cP ca nb cb : Nat) (p : PlanD) (a b : Nat → Int) (w : World) (hp : PlanIn w AH AS AP p) (ha : Ints w DA p.nH a) (hb : Ints w DB nb b) (hnb : nb = p.nH) (hok : okPlan p = true) :
    Lr 59 #[.agg #[.slice AH p.nH cH, .slice AS p.nS cS, .slice AP p.nP cP], .slice DA p.nH ca, .slice DB nb cb] w (.bool (goB p a b)) := by
  subst hnb
  have Hb0 := Lib.hid (below_box w (.cells #[.slice AH p.nH cH, .slice AS p.nS cS, .slice AP p.nP cP] 29))
  have HB0 := Lib.hid (BoxP.new w AH AS AP p.nH p.nS p.nP cH cS cP)
  have HP := Lib.hid (hp.keep Hb0.out)
  have HA := Lib.hid (ha.keep Hb0.out)
  have HB := Lib.hid (hb.keep Hb0.out)
  have hn6 : p.nH ≤ 6 := (okPlan_of hok).1.2.1
  have HLs := Lib.hid hp.sH
  have HDf : Hid (goB p a b = allB (fun h => decide (rHd p h (a h) ≤ rHd p h (b h))) p.nH) := Lib.hid rfl
  obtain ⟨W, hW⟩ : ∃ W, W = w.alloc (.cells #[.slice AH p.nH cH, .slice AS p.nS cS, .slice AP p.nP cP] 29) := ⟨_, rfl⟩
  rw [← hW] at Hb0 HB0 HP HA HB
  have HWW : Hid (w.alloc (.cells #[.slice AH p.nH cH, .slice AS p.nS cS, .slice AP p.nP cP] 29) = W) := Lib.hid hW.symm
  obtain ⟨q0, -, -⟩ := HB0.out
  clear hp ha hb hok hW
  show Calls _ _ _ _ _
  go_enter Try.func59, Try.ntmps59
  go_wp2_with fail
  rw [HWW.out]
  clear HWW
  go_wp2
  clear q0
  go_loopw [12] (fun i wr => ∃ k : Nat, k ≤ p.nH ∧ i = .int .i64 k ∧ (∀ x, x < k → rHd p x (a x) ≤ rHd p x (b x)) ∧ Below W.heap.size W wr) (fun i _ => p.nH - (intOf i).toNat)
  case atStart => exact ⟨0, Nat.zero_le _, rfl, fun x hx => absurd hx (Nat.not_lt_zero _), Below.refl _ _⟩
  case round =>
    obtain ⟨k, hk, rfl, hA, hB⟩ := hrel
    have HAl := Lib.hid hA
    have HBl := Lib.hid hB
    clear hA hB
    by_cases hlt : k < p.nH
    · obtain ⟨bH, oH, RH, kH, rfl, hcH, -, hIH⟩ := (HP.out.keep HBl.out).hands.at hlt
      obtain ⟨ba, oa, rfl, ca'⟩ := (HA.out.keep HBl.out).at hlt
      obtain ⟨bb, ob, rfl, cb'⟩ := (HB.out.keep HBl.out).at hlt
      have hl9 := HLs.out k hlt
      have hA1 := Lib.hid (fun q : Later wr => Lr.same (rank_any RH (p.LH k) kH (p.vH k) (a k) q.to (hIH.keep q.below) (by omega)))
      have hA2 := Lib.hid (fun q : Later wr => Lr.same (rank_any RH (p.LH k) kH (p.vH k) (b k) q.to (hIH.keep q.below) (by omega)))
      have HNx : Hid (rkI (p.vH k) (p.LH k) (a k) ≤ rkI (p.vH k) (p.LH k) (b k) → ∀ x, x < k + 1 → rHd p x (a x) ≤ rHd p x (b x)) := Lib.hid (fun h x hx => by
        by_cases e : x = k
        · rw [e]; exact h
        · exact HAl.out x (by omega))
      have HFa : Hid (rkI (p.vH k) (p.LH k) (b k) < rkI (p.vH k) (p.LH k) (a k) → goB p a b = false) := Lib.hid (fun h => by
        rw [HDf.out]
        refine allB_f hlt (decide_eq_false ?_)
        unfold rHd
        omega)
      generalize rkI (p.vH k) (p.LH k) (a k) = r1 at *
      generalize rkI (p.vH k) (p.LH k) (b k) = r2 at *
      have hki : (k : Int) < p.nH := by omega
      clear hIH hl9
      go_wp2_with fail
      refine wp_region_later (by kernel_rfl) (by kernel_rfl) ?_
      have k2 : ∀ q : Later wr, q.to.cell? ⟨ba, oa + k, none⟩ = some (.int .i64 (a k)) := fun q => q.cell ca'
      have k3 : ∀ q : Later wr, q.to.cell? ⟨bb, ob + k, none⟩ = some (.int .i64 (b k)) := fun q => q.cell cb'
      clear cb' ca'
      repeat
        (with_reducible refine wpQuiet_step ?_
         intro K hK
         go_simp
         first
           | (refine hK _ ?_; clear hK K)
           | (apply Exists.intro
              refine ⟨fun _ => ?_, hK _ ?_⟩
              (first
                | (go_at_call_of 91 (a k); exact Lr.later (hA1.out _))
                | (go_at_call 91; exact Lr.later (hA2.out _)))
              clear hK K))
      with_reducible refine wpQuiet_nil ?_
      intro _ hw'
      obtain ⟨q, rfl⟩ := hw'
      have HB2 := Lib.hid (HBl.out.trans (q.below.mono HBl.out.size))
      clear k2 k3 hcH
      generalize q.to = wy at *
      by_cases hle : r2 < r1
      · have d : decide (r2 < r1) = true := decide_eq_true hle
        have E := Lib.hid (HFa.out hle)
        go_wp2
        go_ret
        exact ⟨ret_bool E.out.symm, Hb0.out.trans (HB2.out.mono Hb0.out.size)⟩
      · have d : decide (r2 < r1) = false := decide_eq_false hle
        have HS2 := Lib.hid (HNx.out (by omega))
        go_wp2
        first
          | exact ⟨⟨k + 1, by omega, by go_num, HS2.out, HB2.out⟩, by simp [intOf]; omega⟩
          | (go_roundw
             case rel => exact ⟨k + 1, by omega, by go_num, HS2.out, HB2.out⟩
             case measure => simp [intOf]; omega)
    · obtain rfl : k = p.nH := by omega
      have E : Hid (goB p a b = true) := Lib.hid (by
        rw [HDf.out]
        exact allB_t (fun x hx => decide_eq_true (HAl.out x hx)))
      go_wp2
      go_ret
      exact ⟨ret_bool E.out.symm, Hb0.out.trans (HBl.out.mono Hb0.out.size)⟩

set_option maxHeartbeats 2000000 in
set_option maxRecDepth 1000000 in
theorem best_any (AH AS AP DA DL : Option Addr) (cH cS cP ca cl : Nat) (p : PlanD) (a : Nat → Int) (w : World) (hp : PlanArg w AH AS AP cH cS cP p) (ha : Ints w DA p.nH a) (hl : Mat w DL (kP p) p.nH (mmP p)) (hok : okPlan p = true) (hsa : Stb p a) :
    Lr 78 #[.agg #[.slice AH p.nH cH, .slice AS p.nS cS, .slice AP p.nP cP], .slice DA p.nH ca, .slice DL (kP p) cl] w (.bool (allB (fun j => goB p a (mmP p j)) (kP p))) := by
  have Hb0 := Lib.hid (below_box w (.cells #[.slice AH p.nH cH, .slice AS p.nS cS, .slice AP p.nP cP] 25))
  have HB0 := Lib.hid (BoxP.newR w AH AS AP p.nH p.nS p.nP cH cS cP)
  have HP := Lib.hid (hp.keep Hb0.out)
  have HA := Lib.hid (ha.keep Hb0.out)
  have HLm := Lib.hid (hl.keep Hb0.out)
  have HOk := Lib.hid hok
  have HSa := Lib.hid hsa
  have HSb := Lib.hid (fun i (hi : i < kP p) => mm_stb hok hi)
  have hk5 : kP p ≤ 100000 := by
    obtain ⟨⟨a1, a2, a3, a4, -⟩, -⟩ := okPlan_of hok
    have h1 := stL_len p a4 p.nH 0 (fun _ => -1)
    have h2 : 5 ^ p.nH ≤ 5 ^ 6 := Nat.pow_le_pow_right (by omega) a2
    unfold kP LsP
    omega
  have hk5i : ((kP p : Nat) : Int) ≤ 100000 := by omega
  obtain ⟨W, hW⟩ : ∃ W, W = w.alloc (.cells #[.slice AH p.nH cH, .slice AS p.nS cS, .slice AP p.nP cP] 25) := ⟨_, rfl⟩
  rw [← hW] at Hb0 HB0 HP HA HLm
  have HWW : Hid (w.alloc (.cells #[.slice AH p.nH cH, .slice AS p.nS cS, .slice AP p.nP cP] 25) = W) := Lib.hid hW.symm
  clear hp ha hl hok hW hsa
  show Calls _ _ _ _ _
  go_enter Try.func78, Try.ntmps78
  go_wp2_with fail
  rw [HWW.out]
  clear HWW
  go_wp2
  go_loopw [11] (fun i wr => ∃ k : Nat, k ≤ kP p ∧ i = .int .i64 k ∧ AllLt (fun j => goB p a (mmP p j)) k ∧ Below W.heap.size W wr) (fun i _ => kP p - (intOf i).toNat)
  case atStart => exact ⟨0, Nat.zero_le _, rfl, AllLt.zero, Below.refl _ _⟩
  case round =>
    obtain ⟨k, hk, rfl, hA, hB⟩ := hrel
    have HAl := Lib.hid hA
    have HBl := Lib.hid hB
    clear hA hB
    by_cases hlt : k < kP p
    · obtain ⟨y0, y1, y2⟩ := HB0.out.keep HBl.out
      obtain ⟨bL, oL, AR, cR, rfl, hcR, hIR⟩ := (HLm.out.keep HBl.out).at hlt
      have HG := Lib.hid (Good_any AH AS AP DA AR cH cS cP ca p.nH cR p a (mmP p k) wr (HP.out.keep HBl.out) (HA.out.keep HBl.out) hIR rfl HOk.out HSa.out (HSb.out k hlt))
      clear hIR
      cases hg : goB p a (mmP p k) with
      | false =>
        have E := Lib.hid (allB_f (p := fun j => goB p a (mmP p j)) hlt hg)
        rw [hg] at HG
        clear hg
        go_wp2_with fail
        refine HG.out.use fun w3 hb3 => ?_
        have HB3 := Lib.hid (Hb0.out.trans ((HBl.out.trans (hb3.mono HBl.out.size)).mono Hb0.out.size))
        clear hb3 y0 y1 y2
        go_wp2
        go_ret
        exact ⟨ret_bool E.out.symm, HB3.out⟩
      | true =>
        have HS2 := Lib.hid (HAl.out.succ hg)
        rw [hg] at HG
        clear hg
        go_wp2_with fail
        refine HG.out.use fun w3 hb3 => ?_
        have HB3 := Lib.hid (HBl.out.trans (hb3.mono HBl.out.size))
        clear hb3 y0 y1 y2
        go_wp2
        go_roundw
        case rel => exact ⟨k + 1, by omega, by go_num, HS2.out, HB3.out⟩
        case measure => simp [intOf]; omega
    · obtain rfl : k = kP p := by omega
      have E := Lib.hid (allB_t HAl.out)
      go_wp2
      go_ret
      exact ⟨ret_bool E.out.symm, Hb0.out.trans (HBl.out.mono Hb0.out.size)⟩
end Go.Proofs.Ytiigcjcolpmafaa

/- The reference's First and Last. -/
namespace Go.Proofs.Ytiigcjcolpmafaa
open Go.RowKit

theorem kP_le5 {p : PlanD} (hok : okPlan p = true) : kP p ≤ 100000 := by
  obtain ⟨⟨a1, a2, a3, a4, -⟩, -⟩ := okPlan_of hok
  have h1 := stL_len p a4 p.nH 0 (fun _ => -1)
  have h2 : 5 ^ p.nH ≤ 5 ^ 6 := Nat.pow_le_pow_right (by omega) a2
  unfold kP LsP
  omega
theorem all_mat2 {w : World} {base : Nat} {x : Value} {p : PlanD} (hok : okPlan p = true) (h : OwnLL w base x (LsP p)) : ∃ A c, x = .slice A (kP p) c ∧ Mat w A (kP p) p.nH (mmP p) := by
  obtain ⟨A, c, rfl, hr⟩ := h.rows
  exact ⟨A, c, rfl, Mat.of hr (fun i hi => mm_len hok hi)⟩
def bsI (p : PlanD) (i : Nat) : Bool := allB (fun j => goB p (mmP p i) (mmP p j)) (kP p)
def wsI (p : PlanD) (i : Nat) : Bool := allB (fun j => goB p (mmP p j) (mmP p i)) (kP p)
theorem bsI_at {p : PlanD} {m : Nat → Int} (hok : okPlan p = true) (hm : Stb p m) (hb : ∀ u, Stb p u → ∀ x, x < p.nH → rHd p x (m x) ≤ rHd p x (u x)) {i : Nat} (hi : i < kP p) (h : bsI p i = true) : ∀ x, x < p.nH → mmP p i x = m x := by
  obtain ⟨j, hj, e⟩ := mm_all hok hm
  have h1 := goB_iff.1 (allB_iff.1 h j hj)
  exact best_one hok (mm_stb hok hi) hm (fun x hx => by rw [← e x hx]; exact h1 x hx) (fun x hx => hb _ (mm_stb hok hi) x hx)
theorem bsI_ex {p : PlanD} {m : Nat → Int} (hok : okPlan p = true) (hm : Stb p m) (hb : ∀ u, Stb p u → ∀ x, x < p.nH → rHd p x (m x) ≤ rHd p x (u x)) : ∃ i, i < kP p ∧ bsI p i = true := by
  obtain ⟨j, hj, e⟩ := mm_all hok hm
  exact ⟨j, hj, allB_iff.2 (fun k hk => goB_iff.2 (fun x hx => by rw [e x hx]; exact hb _ (mm_stb hok hk) x hx))⟩
theorem wsI_at {p : PlanD} {m : Nat → Int} (hok : okPlan p = true) (hm : Stb p m) (hb : ∀ u, Stb p u → ∀ x, x < p.nH → rHd p x (u x) ≤ rHd p x (m x)) {i : Nat} (hi : i < kP p) (h : wsI p i = true) : ∀ x, x < p.nH → mmP p i x = m x := by
  obtain ⟨j, hj, e⟩ := mm_all hok hm
  have h1 := goB_iff.1 (allB_iff.1 h j hj)
  exact best_one hok (mm_stb hok hi) hm (fun x hx => hb _ (mm_stb hok hi) x hx) (fun x hx => by rw [← e x hx]; exact h1 x hx)
theorem wsI_ex {p : PlanD} {m : Nat → Int} (hok : okPlan p = true) (hm : Stb p m) (hb : ∀ u, Stb p u → ∀ x, x < p.nH → rHd p x (u x) ≤ rHd p x (m x)) : ∃ i, i < kP p ∧ wsI p i = true := by
  obtain ⟨j, hj, e⟩ := mm_all hok hm
  exact ⟨j, hj, allB_iff.2 (fun k hk => goB_iff.2 (fun x hx => by rw [e x hx]; exact hb _ (mm_stb hok hk) x hx))⟩

set_option maxHeartbeats 2000000 in
set_option maxRecDepth 1000000 in
theorem rFirst_any (AH AS AP : Option Addr) (cH cS cP : Nat) (p : PlanD) (m : Nat → Int) (w : World) (hp : PlanArg w AH AS AP cH cS cP p) (hok : okPlan p = true) (hm : Stb p m) (hb : ∀ u, Stb p u → ∀ x, x < p.nH → rHd p x (m x) ≤ rHd p x (u x)) :
    Calls Try.prog 48 #[.agg #[.slice AH p.nH cH, .slice AS p.nS cS, .slice AP p.nP cP]] w fun e w' => ∃ A c, e = .returned (.slice A p.nH c) ∧ Ints w' A p.nH m ∧ Below w.heap.size w w' := by
  have Hb0 := Lib.hid (below_box w (.cells #[.slice AH p.nH cH, .slice AS p.nS cS, .slice AP p.nP cP] 25))
  have HB0 := Lib.hid (BoxP.newR w AH AS AP p.nH p.nS p.nP cH cS cP)
  have HP := Lib.hid (hp.keep Hb0.out)
  have HOk := Lib.hid hok
  have HSb := Lib.hid (fun i (hi : i < kP p) => mm_stb hok hi)
  have HAt := Lib.hid (fun i (hi : i < kP p) h => bsI_at hok hm hb hi h)
  have HEx := Lib.hid (bsI_ex hok hm hb)
  have hk5 := kP_le5 hok
  have hk5i : ((kP p : Nat) : Int) ≤ 100000 := by omega
  obtain ⟨W, hW⟩ : ∃ W, W = w.alloc (.cells #[.slice AH p.nH cH, .slice AS p.nS cS, .slice AP p.nP cP] 25) := ⟨_, rfl⟩
  rw [← hW] at Hb0 HB0 HP
  have HWW : Hid (w.alloc (.cells #[.slice AH p.nH cH, .slice AS p.nS cS, .slice AP p.nP cP] 25) = W) := Lib.hid hW.symm
  have HC := Lib.hid (rStable_any AH AS AP cH cS cP p hok W HP.out)
  clear hp hok hW hm hb
  go_enter Try.func48, Try.ntmps48
  go_wp2_with fail
  rw [HWW.out]
  clear HWW
  refine HC.out.mono ?_
  rintro e w2 ⟨x2, rfl, hx2, hb2⟩
  obtain ⟨AL, cL, rfl, hM⟩ := all_mat2 HOk.out hx2
  have HM := Lib.hid hM
  have HB2 := Lib.hid hb2
  clear hx2 hM hb2 HC
  go_wp2
  go_loopw [10] (fun i wr => ∃ k : Nat, k ≤ kP p ∧ i = .int .i64 k ∧ NoneLt (bsI p) k ∧ Below w2.heap.size w2 wr) (fun i _ => kP p - (intOf i).toNat)
  case atStart => exact ⟨0, Nat.zero_le _, rfl, NoneLt.zero, Below.refl _ _⟩
  case round =>
    obtain ⟨k, hk, rfl, hA, hB⟩ := hrel
    have HAl := Lib.hid hA
    have HBl := Lib.hid hB
    have HBW := Lib.hid (HB2.out.trans (hB.mono HB2.out.size))
    clear hA hB
    by_cases hlt : k < kP p
    · obtain ⟨y0, y1, y2⟩ := HB0.out.keep HBW.out
      obtain ⟨bL, oL, AR, cR, rfl, hcR, hIR⟩ := (HM.out.keep HBl.out).at hlt
      have HIR := Lib.hid hIR
      have HG := Lib.hid (best_any AH AS AP AR (some ⟨bL, oL, none⟩) cH cS cP cR cL p (mmP p k) wr (HP.out.keep HBW.out) hIR (HM.out.keep HBl.out) HOk.out (HSb.out k hlt))
      have HDf : Hid (allB (fun j => goB p (mmP p k) (mmP p j)) (kP p) = bsI p k) := Lib.hid rfl
      rw [HDf.out] at HG
      clear hIR
      cases hg : bsI p k with
      | true =>
        have HE := Lib.hid (HAt.out k hlt hg)
        rw [hg] at HG
        clear hg
        go_wp2_with fail
        refine HG.out.use fun w3 hb3 => ?_
        have HI3 := Lib.hid ((HIR.out.keep hb3).congr HE.out)
        have HB3 := Lib.hid (Hb0.out.trans ((HBW.out.trans (hb3.mono HBW.out.size)).mono Hb0.out.size))
        clear hb3 y0 y1 y2
        go_wp2
        go_ret
        first | exact ⟨AR, ⟨cR, rfl⟩, HI3.out, HB3.out⟩ | exact ⟨AR, cR, rfl, HI3.out, HB3.out⟩
      | false =>
        have HS2 := Lib.hid (HAl.out.succ hg)
        rw [hg] at HG
        clear hg
        go_wp2_with fail
        refine HG.out.use fun w3 hb3 => ?_
        have HB3 := Lib.hid (HBl.out.trans (hb3.mono HBl.out.size))
        clear hb3 y0 y1 y2
        go_wp2
        go_roundw
        case rel => exact ⟨k + 1, by omega, by go_num, HS2.out, HB3.out⟩
        case measure => simp [intOf]; omega
    · exfalso
      obtain ⟨i, hi, h⟩ := HEx.out
      have := HAl.out i (by omega)
      rw [h] at this
      cases this

set_option maxHeartbeats 2000000 in
set_option maxRecDepth 1000000 in
theorem rLast_any (AH AS AP : Option Addr) (cH cS cP : Nat) (p : PlanD) (m : Nat → Int) (w : World) (hp : PlanArg w AH AS AP cH cS cP p) (hok : okPlan p = true) (hm : Stb p m) (hb : ∀ u, Stb p u → ∀ x, x < p.nH → rHd p x (u x) ≤ rHd p x (m x)) :
    Calls Try.prog 49 #[.agg #[.slice AH p.nH cH, .slice AS p.nS cS, .slice AP p.nP cP]] w fun e w' => ∃ A c, e = .returned (.slice A p.nH c) ∧ Ints w' A p.nH m ∧ Below w.heap.size w w' := by
  have Hb0 := Lib.hid (below_box w (.cells #[.slice AH p.nH cH, .slice AS p.nS cS, .slice AP p.nP cP] 25))
  have HB0 := Lib.hid (BoxP.newR w AH AS AP p.nH p.nS p.nP cH cS cP)
  have HP := Lib.hid (hp.keep Hb0.out)
  have HOk := Lib.hid hok
  have HSb := Lib.hid (fun i (hi : i < kP p) => mm_stb hok hi)
  have HAt := Lib.hid (fun i (hi : i < kP p) h => wsI_at hok hm hb hi h)
  have HEx := Lib.hid (wsI_ex hok hm hb)
  have hk5 := kP_le5 hok
  have hk5i : ((kP p : Nat) : Int) ≤ 100000 := by omega
  obtain ⟨W, hW⟩ : ∃ W, W = w.alloc (.cells #[.slice AH p.nH cH, .slice AS p.nS cS, .slice AP p.nP cP] 25) := ⟨_, rfl⟩
  rw [← hW] at Hb0 HB0 HP
  have HWW : Hid (w.alloc (.cells #[.slice AH p.nH cH, .slice AS p.nS cS, .slice AP p.nP cP] 25) = W) := Lib.hid hW.symm
  have HC := Lib.hid (rStable_any AH AS AP cH cS cP p hok W HP.out)
  clear hp hok hW hm hb
  go_enter Try.func49, Try.ntmps49
  go_wp2_with fail
  rw [HWW.out]
  clear HWW
  refine HC.out.mono ?_
  rintro e w2 ⟨x2, rfl, hx2, hb2⟩
  obtain ⟨AL, cL, rfl, hM⟩ := all_mat2 HOk.out hx2
  have HM := Lib.hid hM
  have HB2 := Lib.hid hb2
  clear hx2 hM hb2 HC
  go_wp2
  go_loopw [13] (fun i wr => ∃ k : Nat, k ≤ kP p ∧ i = .int .i64 k ∧ NoneLt (wsI p) k ∧ Below w2.heap.size w2 wr) (fun i _ => kP p - (intOf i).toNat)
  case atStart => exact ⟨0, Nat.zero_le _, rfl, NoneLt.zero, Below.refl _ _⟩
  case round =>
    obtain ⟨k, hk, rfl, hA, hB⟩ := hrel
    have HAl := Lib.hid hA
    have HBl := Lib.hid hB
    clear hA hB
    by_cases hlt : k < kP p
    · obtain ⟨bL, oL, AR, cR, eAL, hcR, hIR⟩ := HM.out.at hlt
      subst eAL
      have HIR := Lib.hid hIR
      have hcR := old_cell hcR HBl.out
      have HDf : Hid (wsI p k = allB (fun j => goB p (mmP p j) (mmP p k)) (kP p)) := Lib.hid rfl
      clear hIR
      go_wp2
      clear hcR
      go_loopw [6, 19] (fun s i wr => ∃ (j : Nat) (b : Bool), j ≤ kP p ∧ i = .int .i64 j ∧ s = .bool b ∧ (b = true → AllLt (fun j => goB p (mmP p j) (mmP p k)) j) ∧ (b = false → wsI p k = false) ∧ Below w2.heap.size w2 wr) (fun _ i _ => kP p - (intOf i).toNat)
      case atStart => exact ⟨0, true, Nat.zero_le _, rfl, rfl, fun _ => AllLt.zero, (fun e => by cases e), HBl.out⟩
      case round =>
        obtain ⟨j, b, hj, rfl, rfl, hb1, hb2, hBj⟩ := hrel
        have HB1 := Lib.hid hb1
        have HB2' := Lib.hid hb2
        have HBj := Lib.hid hBj
        have HBW := Lib.hid (HB2.out.trans (hBj.mono HB2.out.size))
        clear hb1 hb2 hBj
        by_cases hjl : j < kP p
        · obtain ⟨y0, y1, y2⟩ := HB0.out.keep HBW.out
          obtain ⟨A2, c2, hc2, hI2⟩ := (HM.out.keep HBj.out).cell hjl
          cases b with
          | false =>
            have HF := Lib.hid (HB2'.out rfl)
            clear hI2
            go_wp2
            go_roundw
            case rel => exact ⟨j + 1, false, by omega, by go_num, rfl, (fun e => by cases e), fun _ => HF.out, HBj.out⟩
            case measure => simp [intOf]; omega
          | true =>
            have HT := Lib.hid (HB1.out rfl)
            have HG := Lib.hid (Good_any AH AS AP A2 AR cH cS cP c2 p.nH cR p (mmP p j) (mmP p k) wr (HP.out.keep HBW.out) hI2 (HIR.out.keep HBj.out) rfl HOk.out (HSb.out j hjl) (HSb.out k hlt))
            clear hI2
            cases hg : goB p (mmP p j) (mmP p k) with
            | false =>
              have HF : Hid (wsI p k = false) := Lib.hid (by rw [HDf.out]; exact allB_f hjl hg)
              rw [hg] at HG
              clear hg
              go_wp2_with fail
              refine HG.out.use fun w3 hb3 => ?_
              have HB3 := Lib.hid (HBj.out.trans (hb3.mono HBj.out.size))
              clear hb3 y0 y1 y2 hc2
              go_wp2
              go_roundw
              case rel => exact ⟨j + 1, false, by omega, by go_num, rfl, (fun e => by cases e), fun _ => HF.out, HB3.out⟩
              case measure => simp [intOf]; omega
            | true =>
              have HS2 := Lib.hid (HT.out.succ hg)
              rw [hg] at HG
              clear hg
              go_wp2_with fail
              refine HG.out.use fun w3 hb3 => ?_
              have HB3 := Lib.hid (HBj.out.trans (hb3.mono HBj.out.size))
              clear hb3 y0 y1 y2 hc2
              go_wp2
              go_roundw
              case rel => exact ⟨j + 1, true, by omega, by go_num, rfl, fun _ => HS2.out, (fun e => by cases e), HB3.out⟩
              case measure => simp [intOf]; omega
        · obtain rfl : j = kP p := by omega
          cases b with
          | true =>
            have HE := Lib.hid (HAt.out k hlt (by rw [HDf.out]; exact allB_t (HB1.out rfl)))
            have HI3 := Lib.hid ((HIR.out.keep HBj.out).congr HE.out)
            have HB3 := Lib.hid (Hb0.out.trans (HBW.out.mono Hb0.out.size))
            go_wp2
            go_ret
            first | exact ⟨AR, ⟨cR, rfl⟩, HI3.out, HB3.out⟩ | exact ⟨AR, cR, rfl, HI3.out, HB3.out⟩
          | false =>
            have HS2 := Lib.hid (HAl.out.succ (HB2'.out rfl))
            go_wp2
            go_roundw
            case rel => exact ⟨k + 1, by omega, by go_num, HS2.out, HBj.out⟩
            case measure => simp [intOf]; omega
    · exfalso
      obtain ⟨i, hi, h⟩ := HEx.out
      have := HAl.out i (by omega)
      rw [h] at this
      cases this
end Go.Proofs.Ytiigcjcolpmafaa

/- No stable matching is there twice; what Covers asks, in the program's and in the reference's words. -/
namespace Go.Proofs.Ytiigcjcolpmafaa
open Go.RowKit

theorem pw_fmTo {α : Type} {R : α → α → Prop} {F : Nat → List α} : ∀ n, (∀ s, s < n → (F s).Pairwise R) → (∀ s t x y, s < t → t < n → x ∈ F s → y ∈ F t → R x y) → (fmTo F n).Pairwise R := by
  intro n
  induction n with
  | zero => intro _ _; exact List.Pairwise.nil
  | succ n ih =>
    intro h1 h2
    show (fmTo F n ++ F n).Pairwise R
    rw [List.pairwise_append]
    refine ⟨ih (fun s hs => h1 s (by omega)) (fun s t x y hs ht => h2 s t x y hs (by omega)), h1 n (by omega), fun x hx y hy => ?_⟩
    obtain ⟨s, hs, hx⟩ := mem_fmTo.1 hx
    exact h2 s n x y hs (by omega) hx hy
theorem lst_at {n : Nat} {f g : Nat → Int} (h : lst n f = lst n g) {x : Nat} (hx : x < n) : f x = g x := by
  have := congrArg (fun l => l.getD x 0) h
  simpa only [lst_getD _ _ _ hx] using this
theorem stL_nodup {p : PlanD} (hok : okPlan p = true) : ∀ d h m, h + d = p.nH → (stL p d h m).Pairwise (· ≠ ·) := by
  intro d
  induction d with
  | zero =>
    intro h m _
    show (if _ then _ else _ : List (List Int)).Pairwise _
    split
    · exact List.pairwise_singleton _ _
    · exact List.Pairwise.nil
  | succ d ih =>
    intro h m he
    have hh : h < p.nH := by omega
    have hm : ∀ v l, l ∈ stL p d (h + 1) (upd m h v) → ∃ u : Nat → Int, u h = v ∧ l = lst p.nH u := fun v l hl => by
      obtain ⟨u, -, h2, h3⟩ := (mem_stL hok d (h + 1) (upd m h v) (by omega)).1 hl
      refine ⟨u, ?_, h3⟩
      rw [h2 h (by omega)]
      simp [upd]
    have hn : ∀ v v' l l', v ≠ v' → l ∈ stL p d (h + 1) (upd m h v) → l' ∈ stL p d (h + 1) (upd m h v') → l ≠ l' := fun v v' l l' hv h1 h2 e => by
      obtain ⟨u, a1, a2⟩ := hm v l h1
      obtain ⟨u', b1, b2⟩ := hm v' l' h2
      rw [a2, b2] at e
      have := lst_at e hh
      omega
    show (stL p d (h + 1) (upd m h (-1)) ++ fmTo (fun s => if possB p h (s : Int) then stL p d (h + 1) (upd m h (s : Int)) else []) p.nS).Pairwise _
    rw [List.pairwise_append]
    refine ⟨ih _ _ (by omega), pw_fmTo _ (fun s _ => ?_) (fun s t x y hst _ hx hy => ?_), fun x hx y hy => ?_⟩
    · split
      · exact ih _ _ (by omega)
      · exact List.Pairwise.nil
    · split at hx
      · split at hy
        · exact hn _ _ x y (by omega) hx hy
        · cases hy
      · cases hx
    · obtain ⟨s, _, hy⟩ := mem_fmTo.1 hy
      split at hy
      · exact hn _ _ x y (by omega) hx hy
      · cases hy
theorem mm_inj {p : PlanD} (hok : okPlan p = true) {i j : Nat} (hi : i < kP p) (hj : j < kP p) (h : ∀ x, x < p.nH → mmP p i x = mmP p j x) : i = j := by
  have hp := stL_nodup hok p.nH 0 (fun _ => -1) (by omega)
  rw [List.pairwise_iff_getElem] at hp
  have hi' : i < (stL p p.nH 0 (fun _ => -1)).length := hi
  have hj' : j < (stL p p.nH 0 (fun _ => -1)).length := hj
  have e : (LsP p).getD i [] = (LsP p).getD j [] := by
    rw [mm_lst hok hi, mm_lst hok hj]
    unfold lst
    exact List.map_congr_left (fun x hx => h x (by simpa using hx))
  have e1 : (LsP p).getD i [] = (stL p p.nH 0 (fun _ => -1))[i] := by
    show (stL p p.nH 0 (fun _ => -1)).getD i [] = _
    rw [List.getD_eq_getElem?_getD, List.getElem?_eq_getElem hi', Option.getD_some]
  have e2 : (LsP p).getD j [] = (stL p p.nH 0 (fun _ => -1))[j] := by
    show (stL p p.nH 0 (fun _ => -1)).getD j [] = _
    rw [List.getD_eq_getElem?_getD, List.getElem?_eq_getElem hj', Option.getD_some]
  rw [e1, e2] at e
  rcases Nat.lt_trichotomy i j with g | g | g
  · exact absurd e (hp i j hi' hj' g)
  · exact g
  · exact absurd e.symm (hp j i hj' hi' g)
def ovB (p : PlanD) (a b : Nat → Int) : Bool := goB p a b && !goB p b a
theorem ov_eq {p : PlanD} (hok : okPlan p = true) {i j : Nat} (hi : i < kP p) (hj : j < kP p) : ovB p (mmP p i) (mmP p j) = (!decide (j = i) && goB p (mmP p i) (mmP p j)) := by
  unfold ovB
  cases h : goB p (mmP p i) (mmP p j) with
  | false => simp
  | true =>
    by_cases e : j = i
    · subst e
      rw [h]
      simp
    · have : goB p (mmP p j) (mmP p i) = false := by
        cases g : goB p (mmP p j) (mmP p i) with
        | false => rfl
        | true =>
          refine absurd (mm_inj hok hj hi (fun x hx => ?_)) e
          exact Stb.same hok (mm_stb hok hj) (mm_stb hok hi) hx (by
            have a := goB_iff.1 h x hx
            have b := goB_iff.1 g x hx
            omega)
      rw [this]
      simp [e]
theorem anyB_cg {P Q : Nat → Bool} {n : Nat} (h : ∀ c, c < n → P c = Q c) : anyB P n = anyB Q n := by
  rw [Bool.eq_iff_iff, anyB_iff, anyB_iff]
  exact ⟨fun ⟨c, hc, e⟩ => ⟨c, hc, by rw [← h c hc]; exact e⟩, fun ⟨c, hc, e⟩ => ⟨c, hc, by rw [h c hc]; exact e⟩⟩
/-- One lies between. -/
def btR (p : PlanD) (i j c : Nat) : Bool := ovB p (mmP p i) (mmP p c) && ovB p (mmP p c) (mmP p j)
def btP (p : PlanD) (i j c : Nat) : Bool := (!decide (c = i) && !decide (c = j)) && (goB p (mmP p i) (mmP p c) && goB p (mmP p c) (mmP p j))
def cvR (p : PlanD) (i j : Nat) : Bool := ovB p (mmP p i) (mmP p j) && !anyB (btR p i j) (kP p)
def cvP (p : PlanD) (i j : Nat) : Bool := (!decide (j = i) && goB p (mmP p i) (mmP p j)) && !anyB (btP p i j) (kP p)
theorem cv_eq {p : PlanD} (hok : okPlan p = true) {i j : Nat} (hi : i < kP p) (hj : j < kP p) : cvP p i j = cvR p i j := by
  unfold cvP cvR
  rw [ov_eq hok hi hj]
  rw [anyB_cg (P := btR p i j) (Q := btP p i j) (fun c hc => by
    unfold btR btP
    rw [ov_eq hok hi hc, ov_eq hok hc hj]
    have e : decide (j = c) = decide (c = j) := by rw [Bool.eq_iff_iff, decide_eq_true_iff, decide_eq_true_iff]; exact ⟨Eq.symm, Eq.symm⟩
    rw [e]
    cases decide (c = i) <;> cases decide (c = j) <;> cases goB p (mmP p i) (mmP p c) <;> cases goB p (mmP p c) (mmP p j) <;> rfl)]
theorem few_goB {p : PlanD} (hok : okPlan p = true) (a b : Nat → Int) : goB (fewP p) a b = goB p a b := by
  rw [Bool.eq_iff_iff, goB_iff, goB_iff, (few_n hok).1]
  have e : ∀ h, h < p.nH → ∀ s, rHd (fewP p) h s = rHd p h s := fun h hh s => by
    unfold rHd
    rw [(few_n hok).2.2.1 h hh]
    rfl
  exact ⟨fun q h hh => by have := q h hh; rw [e h hh, e h hh] at this; exact this, fun q h hh => by rw [e h hh, e h hh]; exact q h hh⟩
end Go.Proofs.Ytiigcjcolpmafaa

