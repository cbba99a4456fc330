/- Part of the proof: YM. -/
import Derived.Test.YtiigcjcolpmafaaYg
import Derived.Test.YtiigcjcolpmafaaLay
import Derived.Test.YtiigcjcolpmafaaVe
import Derived.WalkMore
import Derived.Test.YtiigcjcolpmafaaYc
import Derived.Test.YtiigcjcolpmafaaSb
/- The reference's Good, best, First and Last; the program's asGood. -/
namespace Go.Proofs.Ytiigcjcolpmafaa
open Go.RowKit

/-- At least as good for the hands. -/
def goB (p : PlanD) (a b : Nat → Int) : Bool := allB (fun h => decide (rHd p h (a h) ≤ rHd p h (b h))) p.nH
theorem goB_iff {p : PlanD} {a b : Nat → Int} : goB p a b = true ↔ ∀ h, h < p.nH → rHd p h (a h) ≤ rHd p h (b h) := by
  unfold goB
  rw [allB_iff]
  simp only [decide_eq_true_iff]
theorem Stb.lik {p : PlanD} {a b : Nat → Int} (hok : okPlan p = true) (ha : Stb p a) (hb : Stb p b) {h : Nat} (hh : h < p.nH) : likB p h (b h) (a h) = decide (rHd p h (b h) < rHd p h (a h)) :=
  lik_rk hok hh ((hb.mat h hh).imp id (fun e => (poss_if2.1 e).1)) ((ha.mat h hh).imp id (fun e => (poss_if2.1 e).1))
set_option maxHeartbeats 2000000 in
set_option maxRecDepth 1000000 in
theorem Good_any (AH AS AP DA DB : Option Addr) (cH cS cP ca nb cb : Nat) (p : PlanD) (a b : Nat → Int) (w : World) (hp : PlanArg w AH AS AP cH cS cP p) (ha : Ints w DA p.nH a) (hb : Ints w DB nb b) (hnb : nb = p.nH) (hok : okPlan p = true) (hsa : Stb p a) (hsb : Stb p b) :
    Lr 79 #[.agg #[.slice AH p.nH cH, .slice AS p.nS cS, .slice AP p.nP cP], .slice DA p.nH ca, .slice DB nb cb] w (.bool (goB p a b)) := by
  subst hnb
  have Hb0 := Lib.hid (below_box w (.cells #[.slice AH p.nH cH, .slice AS p.nS cS, .slice AP p.nP cP] 25))
  have HB0 := Lib.hid (BoxP.newR w AH AS AP p.nH p.nS p.nP cH cS cP)
  have HP := Lib.hid (hp.keep Hb0.out)
  have HA := Lib.hid (ha.keep Hb0.out)
  have HB := Lib.hid (hb.keep Hb0.out)
  have hn6 : p.nH ≤ 6 := (okPlan_of hok).1.2.1
  have HOk := Lib.hid hok
  have HLk := Lib.hid (fun h (hh : h < p.nH) => Stb.lik hok hsa hsb hh)
  have HDf : Hid (goB p a b = allB (fun h => decide (rHd p h (a h) ≤ rHd p h (b h))) p.nH) := Lib.hid rfl
  obtain ⟨W, hW⟩ : ∃ W, W = w.alloc (.cells #[.slice AH p.nH cH, .slice AS p.nS cS, .slice AP p.nP cP] 25) := ⟨_, rfl⟩
  rw [← hW] at Hb0 HB0 HP HA HB
  have HWW : Hid (w.alloc (.cells #[.slice AH p.nH cH, .slice AS p.nS cS, .slice AP p.nP cP] 25) = W) := Lib.hid hW.symm
  clear hp ha hb hok hW hsa hsb
  show Calls _ _ _ _ _
  go_enter Try.func79, Try.ntmps79
  go_wp2_with fail
  rw [HWW.out]
  clear HWW
  go_wp2
  go_loopw [10] (fun i wr => ∃ k : Nat, k ≤ p.nH ∧ i = .int .i64 k ∧ (∀ x, x < k → rHd p x (a x) ≤ rHd p x (b x)) ∧ Below W.heap.size W wr) (fun i _ => p.nH - (intOf i).toNat)
  case atStart => exact ⟨0, Nat.zero_le _, rfl, fun x hx => absurd hx (Nat.not_lt_zero _), Below.refl _ _⟩
  case round =>
    obtain ⟨k, hk, rfl, hA, hB⟩ := hrel
    have HAl := Lib.hid hA
    have HBl := Lib.hid hB
    clear hA hB
    by_cases hlt : k < p.nH
    · obtain ⟨y0, y1, y2⟩ := HB0.out.keep HBl.out
      obtain ⟨ba, oa, rfl, ca'⟩ := (HA.out.keep HBl.out).at hlt
      obtain ⟨bb, ob, rfl, cb'⟩ := (HB.out.keep HBl.out).at hlt
      have hA1 := Lib.hid (fun q : Later wr => likes_any AH AS AP cH cS cP p k (b k) (a k) q.to ((HP.out.keep HBl.out).keep q.below).hands.rows HOk.out hlt)
      have HLk2 := HLk.out k hlt
      have HNx : Hid (¬ rHd p k (b k) < rHd p k (a k) → ∀ x, x < k + 1 → rHd p x (a x) ≤ rHd p x (b x)) := Lib.hid (fun h x hx => by
        by_cases e : x = k
        · rw [e]; omega
        · exact HAl.out x (by omega))
      have HFa : Hid (rHd p k (b k) < rHd p k (a k) → goB p a b = false) := Lib.hid (fun h => by
        rw [HDf.out]
        exact allB_f hlt (decide_eq_false (by omega)))
      generalize likB p k (b k) (a k) = lk at *
      generalize a k = av at *
      generalize b k = bv at *
      have hki : (k : Int) < p.nH := by omega
      have HLk3 := Lib.hid HLk2
      clear HLk2
      go_wp2_with fail
      refine wp_region_later (by kernel_rfl) (by kernel_rfl) ?_
      have k0 : ∀ q : Later wr, q.to.cell? ⟨w.heap.size, 0, none⟩ = some (.slice AH p.nH cH) := fun q => q.cell y0
      have k1 : ∀ q : Later wr, q.to.cell? ⟨w.heap.size, 1, none⟩ = some (.slice AS p.nS cS) := fun q => q.cell y1
      have k4 : ∀ q : Later wr, q.to.cell? ⟨w.heap.size, 2, none⟩ = some (.slice AP p.nP cP) := fun q => q.cell y2
      have k2 : ∀ q : Later wr, q.to.cell? ⟨ba, oa + k, none⟩ = some (.int .i64 av) := fun q => q.cell ca'
      have k3 : ∀ q : Later wr, q.to.cell? ⟨bb, ob + k, none⟩ = some (.int .i64 bv) := fun q => q.cell cb'
      clear y0 y1 y2 cb' ca'
      repeat
        (with_reducible refine wpQuiet_step ?_
         intro K hK
         go_simp
         first
           | (refine hK _ ?_; clear hK K)
           | (apply Exists.intro
              refine ⟨fun _ => ?_, hK _ ?_⟩
              (go_at_call 76; exact Lr.later (hA1.out _))
              clear hK K))
      with_reducible refine wpQuiet_nil ?_
      intro _ hw'
      obtain ⟨q, rfl⟩ := hw'
      have HB2 := Lib.hid (HBl.out.trans (q.below.mono HBl.out.size))
      clear k0 k1 k2 k3 k4
      generalize q.to = wy at *
      cases hlk : lk with
      | false =>
        have HS2 := Lib.hid (HNx.out (by
          have := HLk3.out
          rw [hlk] at this
          have := of_decide_eq_false this.symm
          omega))
        clear hlk
        go_wp2
        first
          | exact ⟨⟨k + 1, by omega, by go_num, HS2.out, HB2.out⟩, by simp [intOf]; omega⟩
          | (go_roundw
             case rel => exact ⟨k + 1, by omega, by go_num, HS2.out, HB2.out⟩
             case measure => simp [intOf]; omega)
      | true =>
        have E := Lib.hid (HFa.out (by
          have := HLk3.out
          rw [hlk] at this
          have := of_decide_eq_true this.symm
          omega))
        clear hlk
        go_wp2
        go_ret
        exact ⟨ret_bool E.out.symm, Hb0.out.trans (HB2.out.mono Hb0.out.size)⟩
    · obtain rfl : k = p.nH := by omega
      have E : Hid (goB p a b = true) := Lib.hid (by
        rw [HDf.out]
        exact allB_t (fun x hx => decide_eq_true (HAl.out x hx)))
      go_wp2
      go_ret
      exact ⟨ret_bool E.out.symm, Hb0.out.trans (HBl.out.mono Hb0.out.size)⟩

set_option maxHeartbeats 2000000 in
set_option maxRecDepth 1000000 in
theorem asGood_any (AH AS AP DA DB : Option Addr) (cH cS cP ca nb cb : Nat) (p : PlanD) (a b : Nat → Int) (w : World) (hp : PlanIn w AH AS AP p) (ha : Ints w DA p.nH a) (hb : Ints w DB nb b) (hnb : nb = p.nH) (hok : okPlan p = true) :
    Lr 59 #[.agg #[.slice AH p.nH cH, .slice AS p.nS cS, .slice AP p.nP cP], .slice DA p.nH ca, .slice DB nb cb] w (.bool (goB p a b)) := by
  subst hnb
  have Hb0 := Lib.hid (below_box w (.cells #[.slice AH p.nH cH, .slice AS p.nS cS, .slice AP p.nP cP] 29))
  have HB0 := Lib.hid (BoxP.new w AH AS AP p.nH p.nS p.nP cH cS cP)
  have HP := Lib.hid (hp.keep Hb0.out)
  have HA := Lib.hid (ha.keep Hb0.out)
  have HB := Lib.hid (hb.keep Hb0.out)
  have hn6 : p.nH ≤ 6 := (okPlan_of hok).1.2.1
  have HLs := Lib.hid hp.sH
  have HDf : Hid (goB p a b = allB (fun h => decide (rHd p h (a h) ≤ rHd p h (b h))) p.nH) := Lib.hid rfl
  obtain ⟨W, hW⟩ : ∃ W, W = w.alloc (.cells #[.slice AH p.nH cH, .slice AS p.nS cS, .slice AP p.nP cP] 29) := ⟨_, rfl⟩
  rw [← hW] at Hb0 HB0 HP HA HB
  have HWW : Hid (w.alloc (.cells #[.slice AH p.nH cH, .slice AS p.nS cS, .slice AP p.nP cP] 29) = W) := Lib.hid hW.symm
  obtain ⟨q0, -, -⟩ := HB0.out
  clear hp ha hb hok hW
  show Calls _ _ _ _ _
  go_enter Try.func59, Try.ntmps59
  go_wp2_with fail
  rw [HWW.out]
  clear HWW
  go_wp2
  clear q0
  go_loopw [12] (fun i wr => ∃ k : Nat, k ≤ p.nH ∧ i = .int .i64 k ∧ (∀ x, x < k → rHd p x (a x) ≤ rHd p x (b x)) ∧ Below W.heap.size W wr) (fun i _ => p.nH - (intOf i).toNat)
  case atStart => exact ⟨0, Nat.zero_le _, rfl, fun x hx => absurd hx (Nat.not_lt_zero _), Below.refl _ _⟩
  case round =>
    obtain ⟨k, hk, rfl, hA, hB⟩ := hrel
    have HAl := Lib.hid hA
    have HBl := Lib.hid hB
    clear hA hB
    by_cases hlt : k < p.nH
    · obtain ⟨bH, oH, RH, kH, rfl, hcH, -, hIH⟩ := (HP.out.keep HBl.out).hands.at hlt
      obtain ⟨ba, oa, rfl, ca'⟩ := (HA.out.keep HBl.out).at hlt
      obtain ⟨bb, ob, rfl, cb'⟩ := (HB.out.keep HBl.out).at hlt
      have hl9 := HLs.out k hlt
      have hA1 := Lib.hid (fun q : Later wr => Lr.same (rank_any RH (p.LH k) kH (p.vH k) (a k) q.to (hIH.keep q.below) (by omega)))
      have hA2 := Lib.hid (fun q : Later wr => Lr.same (rank_any RH (p.LH k) kH (p.vH k) (b k) q.to (hIH.keep q.below) (by omega)))
      have HNx : Hid (rkI (p.vH k) (p.LH k) (a k) ≤ rkI (p.vH k) (p.LH k) (b k) → ∀ x, x < k + 1 → rHd p x (a x) ≤ rHd p x (b x)) := Lib.hid (fun h x hx => by
        by_cases e : x = k
        · rw [e]; exact h
        · exact HAl.out x (by omega))
      have HFa : Hid (rkI (p.vH k) (p.LH k) (b k) < rkI (p.vH k) (p.LH k) (a k) → goB p a b = false) := Lib.hid (fun h => by
        rw [HDf.out]
        refine allB_f hlt (decide_eq_false ?_)
        unfold rHd
        omega)
      generalize rkI (p.vH k) (p.LH k) (a k) = r1 at *
      generalize rkI (p.vH k) (p.LH k) (b k) = r2 at *
      have hki : (k : Int) < p.nH := by omega
      clear hIH hl9
      go_wp2_with fail
      refine wp_region_later (by kernel_rfl) (by kernel_rfl) ?_
      have k2 : ∀ q : Later wr, q.to.cell? ⟨ba, oa + k, none⟩ = some (.int .i64 (a k)) := fun q => q.cell ca'
      have k3 : ∀ q : Later wr, q.to.cell? ⟨bb, ob + k, none⟩ = some (.int .i64 (b k)) := fun q => q.cell cb'
      clear cb' ca'
      repeat
        (with_reducible refine wpQuiet_step ?_
         intro K hK
         go_simp
         first
           | (refine hK _ ?_; clear hK K)
           | (apply Exists.intro
              refine ⟨fun _ => ?_, hK _ ?_⟩
              (first
                | (go_at_call_of 91 (a k); exact Lr.later (hA1.out _))
                | (go_at_call 91; exact Lr.later (hA2.out _)))
              clear hK K))
      with_reducible refine wpQuiet_nil ?_
      intro _ hw'
      obtain ⟨q, rfl⟩ := hw'
      have HB2 := Lib.hid (HBl.out.trans (q.below.mono HBl.out.size))
      clear k2 k3 hcH
      generalize q.to = wy at *
      by_cases hle : r2 < r1
      · have d : decide (r2 < r1) = true := decide_eq_true hle
        have E := Lib.hid (HFa.out hle)
        go_wp2
        go_ret
        exact ⟨ret_bool E.out.symm, Hb0.out.trans (HB2.out.mono Hb0.out.size)⟩
      · have d : decide (r2 < r1) = false := decide_eq_false hle
        have HS2 := Lib.hid (HNx.out (by omega))
        go_wp2
        first
          | exact ⟨⟨k + 1, by omega, by go_num, HS2.out, HB2.out⟩, by simp [intOf]; omega⟩
          | (go_roundw
             case rel => exact ⟨k + 1, by omega, by go_num, HS2.out, HB2.out⟩
             case measure => simp [intOf]; omega)
    · obtain rfl : k = p.nH := by omega
      have E : Hid (goB p a b = true) := Lib.hid (by
        rw [HDf.out]
        exact allB_t (fun x hx => decide_eq_true (HAl.out x hx)))
      go_wp2
      go_ret
      exact ⟨ret_bool E.out.symm, Hb0.out.trans (HBl.out.mono Hb0.out.size)⟩

set_option maxHeartbeats 2000000 in
set_option maxRecDepth 1000000 in
theorem best_any (AH AS AP DA DL : Option Addr) (cH cS cP ca cl : Nat) (p : PlanD) (a : Nat → Int) (w : World) (hp : PlanArg w AH AS AP cH cS cP p) (ha : Ints w DA p.nH a) (hl : Mat w DL (kP p) p.nH (mmP p)) (hok : okPlan p = true) (hsa : Stb p a) :
    Lr 78 #[.agg #[.slice AH p.nH cH, .slice AS p.nS cS, .slice AP p.nP cP], .slice DA p.nH ca, .slice DL (kP p) cl] w (.bool (allB (fun j => goB p a (mmP p j)) (kP p))) := by
  have Hb0 := Lib.hid (below_box w (.cells #[.slice AH p.nH cH, .slice AS p.nS cS, .slice AP p.nP cP] 25))
  have HB0 := Lib.hid (BoxP.newR w AH AS AP p.nH p.nS p.nP cH cS cP)
  have HP := Lib.hid (hp.keep Hb0.out)
  have HA := Lib.hid (ha.keep Hb0.out)
  have HLm := Lib.hid (hl.keep Hb0.out)
  have HOk := Lib.hid hok
  have HSa := Lib.hid hsa
  have HSb := Lib.hid (fun i (hi : i < kP p) => mm_stb hok hi)
  have hk5 : kP p ≤ 100000 := by
    obtain ⟨⟨a1, a2, a3, a4, -⟩, -⟩ := okPlan_of hok
    have h1 := stL_len p a4 p.nH 0 (fun _ => -1)
    have h2 : 5 ^ p.nH ≤ 5 ^ 6 := Nat.pow_le_pow_right (by omega) a2
    unfold kP LsP
    omega
  have hk5i : ((kP p : Nat) : Int) ≤ 100000 := by omega
  obtain ⟨W, hW⟩ : ∃ W, W = w.alloc (.cells #[.slice AH p.nH cH, .slice AS p.nS cS, .slice AP p.nP cP] 25) := ⟨_, rfl⟩
  rw [← hW] at Hb0 HB0 HP HA HLm
  have HWW : Hid (w.alloc (.cells #[.slice AH p.nH cH, .slice AS p.nS cS, .slice AP p.nP cP] 25) = W) := Lib.hid hW.symm
  clear hp ha hl hok hW hsa
  show Calls _ _ _ _ _
  go_enter Try.func78, Try.ntmps78
  go_wp2_with fail
  rw [HWW.out]
  clear HWW
  go_wp2
  go_loopw [11] (fun i wr => ∃ k : Nat, k ≤ kP p ∧ i = .int .i64 k ∧ AllLt (fun j => goB p a (mmP p j)) k ∧ Below W.heap.size W wr) (fun i _ => kP p - (intOf i).toNat)
  case atStart => exact ⟨0, Nat.zero_le _, rfl, AllLt.zero, Below.refl _ _⟩
  case round =>
    obtain ⟨k, hk, rfl, hA, hB⟩ := hrel
    have HAl := Lib.hid hA
    have HBl := Lib.hid hB
    clear hA hB
    by_cases hlt : k < kP p
    · obtain ⟨y0, y1, y2⟩ := HB0.out.keep HBl.out
      obtain ⟨bL, oL, AR, cR, rfl, hcR, hIR⟩ := (HLm.out.keep HBl.out).at hlt
      have HG := Lib.hid (Good_any AH AS AP DA AR cH cS cP ca p.nH cR p a (mmP p k) wr (HP.out.keep HBl.out) (HA.out.keep HBl.out) hIR rfl HOk.out HSa.out (HSb.out k hlt))
      clear hIR
      cases hg : goB p a (mmP p k) with
      | false =>
        have E := Lib.hid (allB_f (p := fun j => goB p a (mmP p j)) hlt hg)
        rw [hg] at HG
        clear hg
        go_wp2_with fail
        refine HG.out.use fun w3 hb3 => ?_
        have HB3 := Lib.hid (Hb0.out.trans ((HBl.out.trans (hb3.mono HBl.out.size)).mono Hb0.out.size))
        clear hb3 y0 y1 y2
        go_wp2
        go_ret
        exact ⟨ret_bool E.out.symm, HB3.out⟩
      | true =>
        have HS2 := Lib.hid (HAl.out.succ hg)
        rw [hg] at HG
        clear hg
        go_wp2_with fail
        refine HG.out.use fun w3 hb3 => ?_
        have HB3 := Lib.hid (HBl.out.trans (hb3.mono HBl.out.size))
        clear hb3 y0 y1 y2
        go_wp2
        go_roundw
        case rel => exact ⟨k + 1, by omega, by go_num, HS2.out, HB3.out⟩
        case measure => simp [intOf]; omega
    · obtain rfl : k = kP p := by omega
      have E := Lib.hid (allB_t HAl.out)
      go_wp2
      go_ret
      exact ⟨ret_bool E.out.symm, Hb0.out.trans (HBl.out.mono Hb0.out.size)⟩
end Go.Proofs.Ytiigcjcolpmafaa

/- No stable matching is there twice; what Covers asks, in the program's and in the reference's words. -/
namespace Go.Proofs.Ytiigcjcolpmafaa
open Go.RowKit

theorem pw_fmTo {α : Type} {R : α → α → Prop} {F : Nat → List α} : ∀ n, (∀ s, s < n → (F s).Pairwise R) → (∀ s t x y, s < t → t < n → x ∈ F s → y ∈ F t → R x y) → (fmTo F n).Pairwise R := by
  intro n
  induction n with
  | zero => intro _ _; exact List.Pairwise.nil
  | succ n ih =>
    intro h1 h2
    show (fmTo F n ++ F n).Pairwise R
    rw [List.pairwise_append]
    refine ⟨ih (fun s hs => h1 s (by omega)) (fun s t x y hs ht => h2 s t x y hs (by omega)), h1 n (by omega), fun x hx y hy => ?_⟩
    obtain ⟨s, hs, hx⟩ := mem_fmTo.1 hx
    exact h2 s n x y hs (by omega) hx hy
theorem lst_at {n : Nat} {f g : Nat → Int} (h : lst n f = lst n g) {x : Nat} (hx : x < n) : f x = g x := by
  have := congrArg (fun l => l.getD x 0) h
  simpa only [lst_getD _ _ _ hx] using this
theorem stL_nodup {p : PlanD} (hok : okPlan p = true) : ∀ d h m, h + d = p.nH → (stL p d h m).Pairwise (· ≠ ·) := by
  intro d
  induction d with
  | zero =>
    intro h m _
    show (if _ then _ else _ : List (List Int)).Pairwise _
    split
    · exact List.pairwise_singleton _ _
    · exact List.Pairwise.nil
  | succ d ih =>
    intro h m he
    have hh : h < p.nH := by omega
    have hm : ∀ v l, l ∈ stL p d (h + 1) (upd m h v) → ∃ u : Nat → Int, u h = v ∧ l = lst p.nH u := fun v l hl => by
      obtain ⟨u, -, h2, h3⟩ := (mem_stL hok d (h + 1) (upd m h v) (by omega)).1 hl
      refine ⟨u, ?_, h3⟩
      rw [h2 h (by omega)]
      simp [upd]
    have hn : ∀ v v' l l', v ≠ v' → l ∈ stL p d (h + 1) (upd m h v) → l' ∈ stL p d (h + 1) (upd m h v') → l ≠ l' := fun v v' l l' hv h1 h2 e => by
      obtain ⟨u, a1, a2⟩ := hm v l h1
      obtain ⟨u', b1, b2⟩ := hm v' l' h2
      rw [a2, b2] at e
      have := lst_at e hh
      omega
    show (stL p d (h + 1) (upd m h (-1)) ++ fmTo (fun s => if possB p h (s : Int) then stL p d (h + 1) (upd m h (s : Int)) else []) p.nS).Pairwise _
    rw [List.pairwise_append]
    refine ⟨ih _ _ (by omega), pw_fmTo _ (fun s _ => ?_) (fun s t x y hst _ hx hy => ?_), fun x hx y hy => ?_⟩
    · split
      · exact ih _ _ (by omega)
      · exact List.Pairwise.nil
    · split at hx
      · split at hy
        · exact hn _ _ x y (by omega) hx hy
        · cases hy
      · cases hx
    · obtain ⟨s, _, hy⟩ := mem_fmTo.1 hy
      split at hy
      · exact hn _ _ x y (by omega) hx hy
      · cases hy
theorem mm_inj {p : PlanD} (hok : okPlan p = true) {i j : Nat} (hi : i < kP p) (hj : j < kP p) (h : ∀ x, x < p.nH → mmP p i x = mmP p j x) : i = j := by
  have hp := stL_nodup hok p.nH 0 (fun _ => -1) (by omega)
  rw [List.pairwise_iff_getElem] at hp
  have hi' : i < (stL p p.nH 0 (fun _ => -1)).length := hi
  have hj' : j < (stL p p.nH 0 (fun _ => -1)).length := hj
  have e : (LsP p).getD i [] = (LsP p).getD j [] := by
    rw [mm_lst hok hi, mm_lst hok hj]
    unfold lst
    exact List.map_congr_left (fun x hx => h x (by simpa using hx))
  have e1 : (LsP p).getD i [] = (stL p p.nH 0 (fun _ => -1))[i] := by
    show (stL p p.nH 0 (fun _ => -1)).getD i [] = _
    rw [List.getD_eq_getElem?_getD, List.getElem?_eq_getElem hi', Option.getD_some]
  have e2 : (LsP p).getD j [] = (stL p p.nH 0 (fun _ => -1))[j] := by
    show (stL p p.nH 0 (fun _ => -1)).getD j [] = _
    rw [List.getD_eq_getElem?_getD, List.getElem?_eq_getElem hj', Option.getD_some]
  rw [e1, e2] at e
  rcases Nat.lt_trichotomy i j with g | g | g
  · exact absurd e (hp i j hi' hj' g)
  · exact g
  · exact absurd e.symm (hp j i hj' hi' g)
def ovB (p : PlanD) (a b : Nat → Int) : Bool := goB p a b && !goB p b a
theorem ov_eq {p : PlanD} (hok : okPlan p = true) {i j : Nat} (hi : i < kP p) (hj : j < kP p) : ovB p (mmP p i) (mmP p j) = (!decide (j = i) && goB p (mmP p i) (mmP p j)) := by
  unfold ovB
  cases h : goB p (mmP p i) (mmP p j) with
  | false => simp
  | true =>
    by_cases e : j = i
    · subst e
      rw [h]
      simp
    · have : goB p (mmP p j) (mmP p i) = false := by
        cases g : goB p (mmP p j) (mmP p i) with
        | false => rfl
        | true =>
          refine absurd (mm_inj hok hj hi (fun x hx => ?_)) e
          exact Stb.same hok (mm_stb hok hj) (mm_stb hok hi) hx (by
            have a := goB_iff.1 h x hx
            have b := goB_iff.1 g x hx
            omega)
      rw [this]
      simp [e]
theorem anyB_cg {P Q : Nat → Bool} {n : Nat} (h : ∀ c, c < n → P c = Q c) : anyB P n = anyB Q n := by
  rw [Bool.eq_iff_iff, anyB_iff, anyB_iff]
  exact ⟨fun ⟨c, hc, e⟩ => ⟨c, hc, by rw [← h c hc]; exact e⟩, fun ⟨c, hc, e⟩ => ⟨c, hc, by rw [h c hc]; exact e⟩⟩
/-- One lies between. -/
def btR (p : PlanD) (i j c : Nat) : Bool := ovB p (mmP p i) (mmP p c) && ovB p (mmP p c) (mmP p j)
def btP (p : PlanD) (i j c : Nat) : Bool := (!decide (c = i) && !decide (c = j)) && (goB p (mmP p i) (mmP p c) && goB p (mmP p c) (mmP p j))
def cvR (p : PlanD) (i j : Nat) : Bool := ovB p (mmP p i) (mmP p j) && !anyB (btR p i j) (kP p)
def cvP (p : PlanD) (i j : Nat) : Bool := (!decide (j = i) && goB p (mmP p i) (mmP p j)) && !anyB (btP p i j) (kP p)
theorem cv_eq {p : PlanD} (hok : okPlan p = true) {i j : Nat} (hi : i < kP p) (hj : j < kP p) : cvP p i j = cvR p i j := by
  unfold cvP cvR
  rw [ov_eq hok hi hj]
  rw [anyB_cg (P := btR p i j) (Q := btP p i j) (fun c hc => by
    unfold btR btP
    rw [ov_eq hok hi hc, ov_eq hok hc hj]
    have e : decide (j = c) = decide (c = j) := by rw [Bool.eq_iff_iff, decide_eq_true_iff, decide_eq_true_iff]; exact ⟨Eq.symm, Eq.symm⟩
    rw [e]
    cases decide (c = i) <;> cases decide (c = j) <;> cases goB p (mmP p i) (mmP p c) <;> cases goB p (mmP p c) (mmP p j) <;> rfl)]
theorem few_goB {p : PlanD} (hok : okPlan p = true) (a b : Nat → Int) : goB (fewP p) a b = goB p a b := by
  rw [Bool.eq_iff_iff, goB_iff, goB_iff, (few_n hok).1]
  have e : ∀ h, h < p.nH → ∀ s, rHd (fewP p) h s = rHd p h s := fun h hh s => by
    unfold rHd
    rw [(few_n hok).2.2.1 h hh]
    rfl
  exact ⟨fun q h hh => by have := q h hh; rw [e h hh, e h hh] at this; exact this, fun q h hh => by rw [e h hh, e h hh]; exact q h hh⟩
end Go.Proofs.Ytiigcjcolpmafaa

/- slices.SortFunc by rank, at whatever length; choice and middle of whatever many matchings. -/
namespace Go.Proofs.Ytiigcjcolpmafaa
open Go.RowKit Go.Shelf Go.Lib Go.Sort

theorem size_sortW (enc : Int → Value) (w : World) (g m : Nat) (d : Array Int) (os : Array Obj) : (sortWorld enc w g 0 m d os).heap.size = w.heap.size + os.size := by
  unfold sortWorld grow
  simp [ahead]
theorem heap_sortW (enc : Int → Value) (w : World) (g m : Nat) (d : Array Int) (os : Array Obj) {k : Nat} (hk : k < w.heap.size) (hne : k ≠ g) : (sortWorld enc w g 0 m d os).heap[k]? = w.heap[k]? := by
  unfold sortWorld grow putRow mapBlock
  simp only
  rw [Array.getElem?_append_left (by simpa [ahead] using hk), Array.getElem?_modify, if_neg (fun e => hne e.symm)]
  rfl
theorem heap_sortW_at (enc : Int → Value) (w : World) (g m : Nat) (d : Array Int) (os : Array Obj) {c : Array Value} {t : TypeId} (h : w.heap[g]? = some (.cells c t (0, 0))) : (sortWorld enc w g 0 m d os).heap[g]? = some (.cells (putCells enc 0 d c) t (0, 0)) := by
  have hk : g < w.heap.size := (Array.getElem?_eq_some_iff.1 h).1
  unfold sortWorld grow putRow mapBlock
  simp only
  rw [Array.getElem?_append_left (by simpa [ahead] using hk), Array.getElem?_modify, if_pos rfl]
  show Option.map _ (w.heap[g]?) = _
  rw [h]
  rfl
theorem exc_sortW (w : World) (g m : Nat) (d : Array Int) (os : Array Obj) : Exc g w (sortWorld (Value.int .i64) w g 0 m d os) :=
  ⟨rfl, rfl, rfl, by rw [size_sortW]; omega, fun k hk hne => heap_sortW _ _ _ _ _ _ hk (fun e => hne (by rw [e]))⟩
theorem rowC_sortW {w : World} {g cap n m : Nat} {F : Nat → Int} {d : Array Int} {os : Array Obj} (h : RowC w g cap n F) (hd : d.size = n) : RowC (sortWorld (Value.int .i64) w g 0 m d os) g cap n (fun i => d[i]!) := by
  obtain ⟨G, ⟨c, h1, h2, h3⟩, hn, -⟩ := h
  refine ⟨fun i => if i < n then .int .i64 d[i]! else G i, ⟨_, heap_sortW_at _ _ _ _ _ _ h1, by unfold putCells; simp [h2], fun i hi => ?_⟩, hn, fun i hi => if_pos hi⟩
  unfold putCells
  rw [Array.getElem?_mapIdx, h3 i hi]
  simp only [Option.map_some, Nat.zero_le, true_and, Nat.zero_add, hd, Nat.sub_zero]
theorem swo_rank (r : Int → Int) : SWO (ltOf fun x y => r x - r y) where
  irrefl x := by
    show decide (r x - r x < 0) = false
    exact decide_eq_false (by omega)
  trans x y z h1 h2 := by
    have h1 : decide (r x - r y < 0) = true := h1
    have h2 : decide (r y - r z < 0) = true := h2
    show decide (r x - r z < 0) = true
    rw [decide_eq_true_iff] at *
    omega
  ntrans x y z h1 h2 := by
    have h1 : decide (r x - r y < 0) = false := h1
    have h2 : decide (r y - r z < 0) = false := h2
    show decide (r x - r z < 0) = false
    rw [decide_eq_false_iff_not] at *
    omega
theorem arr_lst (d : Array Int) : d.toList = lst d.size (fun i => d[i]!) := by
  refine List.ext_getElem (by rw [lst_len]; simp) (fun i h1 h2 => ?_)
  rw [lst_len] at h2
  have e1 := lst_get d.size (fun i => d[i]!) i h2
  rw [List.getElem?_eq_getElem (by rw [lst_len]; exact h2)] at e1
  injection e1 with e1
  rw [e1]
  simp [h2]

set_option maxHeartbeats 2000000 in
set_option maxRecDepth 1000000 in
theorem sortFunc_big (g cap n bx : Nat) (F : Nat → Int) (A : Option Addr) (L c : Nat) (f : Nat → Int) (w : World) (hR : RowC w g cap n F) (_ : 0 < n) (hn : n ≤ 1000000)
    (hb : w.cell? ⟨bx, 0, none⟩ = some (.slice A L c)) (hI : Ints w A L f) (hL : L ≤ 10000) (hne : bx ≠ g) (hneA : 0 < L → ∀ b o, A = some ⟨b, o, none⟩ → b ≠ g) :
    Calls Try.prog 120 #[.slice (some ⟨g, 0, none⟩) n cap, .func (.func 121) #[] #[.pointer (some ⟨bx, 0, none⟩)]] w fun e w' =>
      e = .returned (.tuple #[]) ∧ ∃ F', RowC w' g cap n F' ∧ (lst n F').Perm (lst n F) ∧ Srt (rkI f L) F' n ∧ Exc g w w' := by
  have hds : (lst n F).toArray.size = n := by simp [lst_len]
  have eg : ∀ args w, (callFunc 121 args).run Try.prog w = .ok (.enter 121 args) w := enters_of Try.func121 (by kernel_rfl) rfl
  have hcmp : CmpReads Try.prog 121 #[.pointer (some ⟨bx, 0, none⟩)] (Value.int .i64) (fun x y => rkI f L x - rkI f L y) g 0 (lst n F).toArray.size w := fun m os dk _ x y => by
    have he := exc_sortW w g m dk os
    exact cmpRank_any bx A L c f x y _ (he.cell hb hne) (fun hp => by
      obtain ⟨b, o, e, hc⟩ := hI hp
      exact ⟨b, o, e, fun k hk => he.cell (hc k hk) (hneA hp b o e)⟩) hL
  have hH : Holds (Value.int .i64) w g 0 (lst n F).toArray := fun j hj => by
    rw [hds] at hj
    refine ⟨?_, hR.frozen _⟩
    rw [Nat.zero_add, hR.cell hj]
    have : (lst n F).toArray[j]! = F j := by
      have e1 := lst_get n F j hj
      rw [getElem!_pos _ _ (by rw [hds]; exact hj)]
      rw [List.getElem?_eq_getElem (by rw [lst_len]; exact hj)] at e1
      injection e1 with e1
    rw [this]
  have hcon := Any.slices_SortFunc Try.sortF (Value.int .i64) (fun _ => rfl) (fun x y => rkI f L x - rkI f L y) (swo_rank _) 121 #[.pointer (some ⟨bx, 0, none⟩)] g 0 cap (lst n F).toArray w eg hcmp.lays hH hR.lt (by rw [hds]; omega)
  change Calls Try.prog 120 _ _ _ at hcon
  rw [hds] at hcon
  refine hcon.mono ?_
  rintro e w' ⟨rfl, d', m, os, ⟨hp1, -, hp3⟩, hs, rfl⟩
  rw [hds] at hp1
  refine ⟨rfl, fun i => d'[i]!, rowC_sortW hR hp1, ?_, fun i j hij hj => ?_, exc_sortW _ _ _ _ _⟩
  · have e1 : (d'.extract 0 n).toList = d'.toList := by
      rw [← hp1]
      simp
    have e2 : ∀ l : List Int, (l.toArray.extract 0 l.length).toList = l := fun l => by simp
    have e3 := e2 (lst n F)
    rw [lst_len] at e3
    rw [e1, e3, arr_lst, hp1] at hp3
    exact hp3
  · have := hs i j (Nat.zero_le _) hij hj
    have this : decide (rkI f L d'[j]! - rkI f L d'[i]! < 0) = false := this
    rw [decide_eq_false_iff_not] at this
    show rkI f L d'[i]! ≤ rkI f L d'[j]!
    omega
end Go.Proofs.Ytiigcjcolpmafaa

/- choice and middle of whatever many matchings. -/
namespace Go.Proofs.Ytiigcjcolpmafaa
open Go.RowKit

theorem clone_some_big (a : Addr) (n c : Nat) (f : Nat → Int) (w : World) (h : ∀ j u, ((lst n f).map (Value.int .i64))[j]? = some u → w.cell? (a.add j) = some u) (hn : n ≤ 1000000) :
    Calls Try.prog 63 #[.slice (some a) n c] w fun e w' => ∃ v', e = .returned v' ∧ OwnL w' w.heap.size v' (lst n f) ∧ v' ≠ .slice none 0 0 ∧ Below w.heap.size w w' := by
  have q := fun (w : World) (a : Option Addr) (n c n' c' : Nat) => Lib.run_eql_slice_nil (P := Try.prog) w 23 3 a n c n' c' Try.underlying23
  obtain ⟨i0, hi, hz0, hz1, hz2⟩ := info_parts infoInt
  have H := Lib.hid h
  clear h
  go_enter Try.func63, Try.ntmps63
  go_wp2_with (at_builtin; refine wpList_append_own _ rfl _ _ 23 rfl w.heap.size 3 i0 (.int .i64 0) 1 8 Try.underlying23 hi hz0 hz1 hz2 rfl (by decide) _ _ _ rfl (World.ownsRow_made w #[] 0 (Nat.le_refl _) (Nat.zero_le _) rfl) a n c ((lst n f).map (Value.int .i64)) rfl ?qc1 ?qc2 ?qc3 ?qc4 ?qc5 ?qc6 ?_)
  case qc1 => simp [lst_len]
  case qc2 => exact fun j u hu => Lib.cell?_alloc_some _ (H.out j u hu)
  case qc3 => exact one_of_ints _
  case qc4 => unfold maxLen; omega
  case qc5 => omega
  case qc6 => simp
  intro v' w1 hown hgrow hnil
  go_wp2
  go_ret
  refine ⟨v', rfl, ?_, ?_, ?_⟩
  · unfold OwnL; rw [lst_len]; simpa using hown
  · exact hnil
  · exact ((Below.refl _ w).alloc (Nat.le_refl _) _).grown hgrow (by simp) (by intro k hk; simp [Value.ownBlock] at hk; omega)



theorem clone_any_big (A : Option Addr) (n c : Nat) (f : Nat → Int) (w : World) (h : Ints w A n f) (hn : n ≤ 1000000) :
    Calls Try.prog 63 #[.slice A n c] w fun e w' => ∃ v', e = .returned v' ∧ OwnL w' w.heap.size v' (lst n f) ∧ (v' = .slice none 0 0 ↔ A = none) ∧ Below w.heap.size w w' := by
  rcases A with _ | a
  · obtain rfl := h.none_
    refine (clone_nil 0 c w).mono ?_
    rintro e w' ⟨rfl, rfl⟩
    exact ⟨_, rfl, OwnL.nil_ _ _, by simp, Below.refl _ _⟩
  · refine (clone_some_big a n c f w ?_ hn).mono ?_
    · intro j u hu
      have hj : 0 < n := by
        have := (List.getElem?_eq_some_iff.1 hu).1
        simp [lst] at this
        omega
      obtain ⟨b, o, e, _⟩ := h.at hj
      injection e with e
      subst e
      exact cells_of_ints h j u hu
    · rintro e w' ⟨v', rfl, h1, h2, h3⟩
      exact ⟨v', rfl, h1, by simp [h2], h3⟩



set_option maxHeartbeats 2000000 in
set_option maxRecDepth 1000000 in
theorem byRank_big (A B : Option Addr) (L c n cB : Nat) (f o : Nat → Int) (w : World) (hI : Ints w A L f) (hO : Ints w B n o) (hL : L ≤ 10000) (hn0 : 0 < n) (hn : n ≤ 1000000) :
    Calls Try.prog 111 #[.slice A L c, .slice B n cB] w fun e w' => ∃ g cap F, e = .returned (.slice (some ⟨g, 0, none⟩) n cap) ∧ RowC w' g cap n F ∧ (lst n F).Perm (lst n o) ∧ Srt (rkI f L) F n ∧ Below w.heap.size w w' := by
  have HI := Lib.hid hI
  have HO := Lib.hid hO
  have hb0 : Below w.heap.size w (w.alloc (.cells #[.slice A L c] 23)) := (Below.refl _ _).alloc (Nat.le_refl _) _
  have Hb0 := Lib.hid hb0
  have hbox : (w.alloc (.cells #[.slice A L c] 23)).cell? ⟨w.heap.size, 0, none⟩ = some (.slice A L c) := by simp [World.cell?_alloc_at]
  have HBox := Lib.hid hbox
  clear hI hO hb0 hbox
  go_enter Try.func111, Try.ntmps111
  go_wp2_with fail
  refine (clone_any_big B n cB o _ (HO.out.keep Hb0.out) (by omega)).mono ?_
  rintro e w1 ⟨v, rfl, hv, -, hb1⟩
  obtain ⟨g, cap, rfl, hg, hrow⟩ := hv.rowC hn0
  have hbx := hb1.cell (show (⟨w.heap.size, 0, none⟩ : Addr).block < _ by simp)
  rw [HBox.out] at hbx
  have hgw : w.heap.size + 1 ≤ g := by simpa using hg
  have HSo := Lib.hid (sortFunc_big g cap n w.heap.size o A L c f w1 hrow hn0 hn hbx ((HI.out.keep Hb0.out).keep hb1) hL (by omega) (fun h0 b p e => by
    obtain ⟨b', o', e', hc⟩ := HI.out h0
    rw [e] at e'
    injection e' with e'
    injection e' with e1
    have := World.block_lt_of_cell? _ _ (hc 0 h0)
    simp only at this
    omega))
  have Hb1 := Lib.hid (Hb0.out.trans (hb1.mono Hb0.out.size))
  clear hv hb1 hrow hbx hg
  go_wp2_with fail
  refine HSo.out.mono ?_
  rintro e w2 ⟨rfl, F, hR, hP, hS, hE⟩
  have HR := Lib.hid hR
  have HP := Lib.hid hP
  have HS := Lib.hid hS
  have Hb2 := Lib.hid (Hb1.out.trans (hE.below (by omega) Hb1.out.size))
  clear hR hP hS hE
  go_wp2
  go_ret
  exact ⟨g, cap, F, rfl, HR.out, HP.out, HS.out, Hb2.out⟩

set_option maxHeartbeats 1000000 in
set_option maxRecDepth 1000000 in
theorem choice_big (A B : Option Addr) (L c n cB k : Nat) (f o : Nat → Int) (x0 : Int) (w : World) (hI : Ints w A L f) (hO : Ints w B n o) (hL : L ≤ 10000) (hn : n ≤ 1000000) (hk : k < n)
    (hx : ∀ F : Nat → Int, (lst n F).Perm (lst n o) → Srt (rkI f L) F n → F k = x0) :
    Lr 90 #[.slice A L c, .int .i64 ((k + 1 : Nat) : Int), .slice B n cB] w (.int .i64 x0) := by
  have HC := Lib.hid (byRank_big A B L c n cB f o w hI hO hL (by omega) hn)
  have HX := Lib.hid hx
  obtain ⟨K, hK⟩ : ∃ K, K = k + 1 := ⟨_, rfl⟩
  have u1 : IntKind.i64.wrap ((K : Int) - 1) = (K : Int) - 1 := IntWalk.i64_in _ ⟨by omega, by omega⟩
  have u2 : ((K : Int) - 1).toNat = k := by omega
  have u3 : (0 : Int) ≤ (K : Int) - 1 := by omega
  have u4 : (K : Int) - 1 < n := by omega
  rw [← hK]
  clear hI hO hx hK
  show Calls _ _ _ _ _
  go_enter Try.func90, Try.ntmps90
  go_wp2_with fail
  refine HC.out.mono ?_
  rintro e w1 ⟨g, cap, F, rfl, hR, hP, hS, hb⟩
  have hc := hR.cell hk
  rw [HX.out F hP hS] at hc
  have Hb := Lib.hid hb
  clear hR hP hS hb
  go_wp2
  go_ret
  exact ⟨rfl, Hb.out⟩
set_option maxHeartbeats 2000000 in
set_option maxRecDepth 1000000 in
theorem middle_big (AH AS AP M : Option Addr) (cH cS cP N cM k : Nat) (p : PlanD) (mm : Nat → Nat → Int) (mid : Nat → Int) (w : World) (hp : PlanIn w AH AS AP p) (hM : Rows2 w M N (fun _ => p.nH) mm) (hN : N ≤ 1000000) (hk : k < N)
    (hmid : ∀ h, h < p.nH → ∀ F : Nat → Int, (lst N F).Perm (lst N (fun j => mm j h)) → Srt (rkI (p.vH h) (p.LH h)) F N → F k = mid h) :
    Calls Try.prog 58 #[.agg #[.slice AH p.nH cH, .slice AS p.nS cS, .slice AP p.nP cP], .int .i64 ((k + 1 : Nat) : Int), .slice M N cM] w fun e w' => ∃ g, e = .returned (.slice (some ⟨g, 0, none⟩) p.nH p.nH) ∧ RowI w' g p.nH mid ∧ Below w.heap.size w w' := by
  obtain ⟨i0, hi, hz0, hz1, hz2⟩ := info_parts infoInt
  have hnH := hp.nH9
  have hmk := mk_ints p.nH (by omega)
  have HsH := Lib.hid hp.sH
  have Hb0 := Lib.hid (below_box w (.cells #[.slice AH p.nH cH, .slice AS p.nS cS, .slice AP p.nP cP] 29))
  have HB0 := Lib.hid (BoxP.new w AH AS AP p.nH p.nS p.nP cH cS cP)
  obtain ⟨W, hW⟩ : ∃ W, W = w.alloc (.cells #[.slice AH p.nH cH, .slice AS p.nS cS, .slice AP p.nP cP] 29) := ⟨_, rfl⟩
  rw [← hW] at Hb0 HB0
  have HHd := Lib.hid (hp.hands.keep Hb0.out)
  have HM := Lib.hid (hM.keep Hb0.out)
  have HMid := Lib.hid hmid
  obtain ⟨K, hK⟩ : ∃ K, K = k + 1 := ⟨_, rfl⟩
  rw [← hK]
  have HK := Lib.hid hK
  have hr0 : RowI (W.alloc (.cells (madeCells #[.int .i64 0] p.nH) 3)) W.heap.size p.nH (fun g => if g < 0 then mid g else 0) := (RowI.made W p.nH).congr fun g _ => by rw [if_neg (by omega)]
  have HR0 := Lib.hid hr0
  have Hbm := Lib.hid (below_box W (.cells (madeCells #[.int .i64 0] p.nH) 3))
  obtain ⟨q0, q1, q2⟩ := HB0.out
  have q0' := old_cell q0 Hbm.out
  clear hp hM hmid hK hr0
  go_enter Try.func58, Try.ntmps58
  have hWs : W.heap.size = w.heap.size + 1 := by rw [hW]; simp
  rw [hWs] at HR0
  go_wp2
  rw [← hW]
  clear hmk q0 q1 q2 q0' hW
  obtain ⟨gm, hgm⟩ : ∃ gm, gm = w.heap.size + 1 := ⟨_, rfl⟩
  have HGm : Hid (gm = W.heap.size) := Lib.hid (by rw [hgm, hWs])
  rw [← hgm]
  rw [← hgm] at HR0
  clear hWs
  have HBm2 := Lib.hid (HB0.out.keep Hbm.out)
  have Hwm := Lib.hid (Hb0.out.trans (Hbm.out.mono Hb0.out.size))
  clear hgm
  go_loopw [20] (fun x wr => ∃ h : Nat, h ≤ p.nH ∧ x = .int .i64 h ∧ RowI wr gm p.nH (fun g => if g < h then mid g else 0) ∧ Below w.heap.size w wr ∧ Below W.heap.size W wr) (fun x _ => p.nH - (intOf x).toNat)
  case atStart => exact ⟨0, Nat.zero_le _, rfl, HR0.out, Hwm.out, Hbm.out⟩
  case round =>
    obtain ⟨h, hh, rfl, hR, hbel, hbW⟩ := hrel
    have HR := Lib.hid hR
    have Hbel := Lib.hid hbel
    have HbW := Lib.hid hbW
    clear hR hbel hbW
    by_cases hlt : h < p.nH
    · obtain ⟨bH, oH, RH, kH, rfl, hcH, -, hIH⟩ := (HHd.out.keep HbW.out).at hlt
      have HIH := Lib.hid hIH
      clear hIH
      go_wp2
      obtain ⟨wo, hwo⟩ : ∃ wo : World, wo = wr := ⟨_, rfl⟩
      have HWo := Lib.hid hwo
      clear hwo
      go_loopw [10, 27] (fun s x wi => ∃ j : Nat, j ≤ N ∧ x = .int .i64 j ∧ OwnL wi wo.heap.size s (lst j (fun i => mm i h)) ∧ Below wo.heap.size wo wi) (fun _ x _ => N - (intOf x).toNat)
      case atStart => exact ⟨0, Nat.zero_le _, rfl, OwnL.nil_ _ _, by rw [HWo.out]; exact Below.refl _ _⟩
      case round =>
        obtain ⟨j, hj, rfl, hown, hbi⟩ := hrel
        have HOwn := Lib.hid hown
        have HBi := Lib.hid hbi
        have hszi := hbi.size
        clear hown hbi
        have HbWi : Hid (Below W.heap.size W wr) := Lib.hid (by
          have h1 := HbW.out
          rw [← HWo.out] at h1
          exact h1.trans (HBi.out.mono h1.size))
        by_cases hlt2 : j < N
        · obtain ⟨bM, oM, RM, kM, rfl, hcM, hIM⟩ := (HM.out.keep HbWi.out).at hlt2
          obtain ⟨bm, om, rfl, hcm⟩ := hIM.at hlt
          have hlen := lst_len j (fun i => mm i h)
          have HS := Lib.hid (lst_succ j (fun i => mm i h))
          go_wp2_with (at_builtin; go_loud (refine wpList_append_own _ rfl _ _ 23 rfl wo.heap.size 3 i0 (.int .i64 0) 1 8 Try.underlying23 hi hz0 hz1 hz2 rfl (by decide) _ _ _ rfl (World.ownsRow.alloc HOwn.out _) ⟨wr.heap.size, 0, none⟩ 1 1 [.int .i64 (mm j h)] rfl rfl (news1 _ _ _) (one1 rfl) (by rw [hlen]; unfold maxLen; omega) (by rw [hlen]; omega) (by simp; omega) ?_))
          intro v2 w2 hown2 hgrow2 _
          have hb2 : Below wo.heap.size wo w2 := (HBi.out.alloc hszi _).grown hgrow2 (by simp; omega) (fun g hg => (World.ownsRow.lt HOwn.out g hg).1)
          have hO2 : OwnL w2 wo.heap.size v2 (lst (j + 1) (fun i => mm i h)) := by
            rw [HS.out]
            unfold OwnL
            simpa [hlen] using hown2
          have HO2 := Lib.hid hO2
          have Hb2 := Lib.hid hb2
          clear hown2 hgrow2 hO2 hb2
          go_wp2
          go_roundw
          case rel => exact ⟨j + 1, by omega, by go_num, HO2.out, Hb2.out⟩
          case measure => simp [intOf]; omega
        · obtain rfl : j = N := by omega
          obtain ⟨A3, c3, rfl, hI3'⟩ := HOwn.out.shp (lst_len _ _)
          have hI3 := hI3'.congr (g := fun i => mm i h) (fun q hq => lst_getD _ _ _ hq)
          clear hI3'
          have hLh := HsH.out h hlt
          have hch := choice_big RH A3 (p.LH h) kH j c3 k (p.vH h) (fun i => mm i h) (mid h) wr (by
            have h1 := HIH.out
            rw [← HWo.out] at h1
            exact h1.keep HBi.out) hI3 (by omega) hN hk (HMid.out h hlt)
          rw [← HK.out] at hch
          have HCh := Lib.hid hch
          have HR2 : Hid (RowI wr gm p.nH (fun g => if g < h then mid g else 0)) := Lib.hid (by
            have h1 := HR.out
            rw [← HWo.out] at h1
            exact h1.keep HBi.out)
          have Hbel2 : Hid (Below w.heap.size w wr) := Lib.hid (by
            have h1 := Hbel.out
            rw [← HWo.out] at h1
            exact h1.trans (HBi.out.mono h1.size))
          clear hch hI3
          go_wp2_with fail
          refine Lr.use HCh.out ?_
          intro w4 hb4
          have HR4 := HR2.out.keep hb4
          have hck := HR4.cell hlt
          have hfz := HR4.frozen h
          have HR5 := Lib.hid (HR4.set h (mid h))
          have hgw : w.heap.size ≤ gm := by rw [HGm.out]; exact Hb0.out.size
          have hgW : W.heap.size ≤ gm := by rw [HGm.out]; exact Nat.le_refl _
          have Hb5 := Lib.hid ((Hbel2.out.trans (hb4.mono Hbel2.out.size)).setCell (p := ⟨gm, h, none⟩) hgw (.int .i64 (mid h)))
          have HbW5 := Lib.hid ((HbWi.out.trans (hb4.mono HbWi.out.size)).setCell (p := ⟨gm, h, none⟩) hgW (.int .i64 (mid h)))
          clear HR4 hb4 hgw hgW
          go_wp2
          go_roundw
          case rel =>
            refine ⟨h + 1, by omega, by go_num, HR5.out.congr (fun g hg => ?_), Hb5.out, HbW5.out⟩
            simp only [upd]
            by_cases e : g = h
            · rw [if_pos e, if_pos (by omega), e]
            · rw [if_neg e]
              by_cases e2 : g < h
              · rw [if_pos e2, if_pos (by omega)]
              · rw [if_neg e2, if_neg (by omega)]
          case measure => simp [intOf]; omega
    · obtain rfl : h = p.nH := by omega
      go_wp2
      go_ret
      exact ⟨gm, rfl, HR.out.congr (fun g hg => by rw [if_pos hg]), Hbel.out⟩
end Go.Proofs.Ytiigcjcolpmafaa

/- Middle and Last of a plan. -/
namespace Go.Proofs.Ytiigcjcolpmafaa
open Go.RowKit

/-- What each hand has in the middle, at the k-th place. -/
noncomputable def midG (p : PlanD) : Nat → Nat → Int := if h : okPlan p = true then Classical.choose (mid_ex h) else fun _ _ => 0
theorem midG_spec {p : PlanD} (hok : okPlan p = true) : (∀ k, k < kP p → Stb p (midG p k)) ∧ (∀ h, h < p.nH → ∀ F : Nat → Int, (lst (kP p) F).Perm (lst (kP p) (fun j => mmP p j h)) → Srt (rkI (p.vH h) (p.LH h)) F (kP p) → ∀ k, k < kP p → F k = midG p k h) ∧
    (∀ h, h < p.nH → (lst (kP p) (fun k => midG p k h)).Perm (lst (kP p) (fun j => mmP p j h))) ∧ ∀ h i j, h < p.nH → i ≤ j → j < kP p → rHd p h (midG p i h) ≤ rHd p h (midG p j h) := by
  have := Classical.choose_spec (mid_ex hok)
  unfold midG
  rw [dif_pos hok]
  exact this
theorem lst_mem {n : Nat} {f : Nat → Int} {x : Int} : x ∈ lst n f ↔ ∃ i, i < n ∧ f i = x := by
  unfold lst
  rw [List.mem_map]
  exact ⟨fun ⟨i, h1, h2⟩ => ⟨i, List.mem_range.1 h1, h2⟩, fun ⟨i, h1, h2⟩ => ⟨i, List.mem_range.2 h1, h2⟩⟩
/-- The first in the middle is the best, and the last the worst. -/
theorem midG_first {p : PlanD} (hok : okPlan p = true) {u : Nat → Int} (hu : Stb p u) {h : Nat} (hh : h < p.nH) : rHd p h (midG p 0 h) ≤ rHd p h (u h) ∧ rHd p h (u h) ≤ rHd p h (midG p (kP p - 1) h) := by
  obtain ⟨-, -, h3, h4⟩ := midG_spec hok
  obtain ⟨i, hi, he⟩ := mm_all hok hu
  have h5 : u h ∈ lst (kP p) (fun j => mmP p j h) := lst_mem.2 ⟨i, hi, he h hh⟩
  obtain ⟨k, hk, e⟩ := lst_mem.1 ((h3 h hh).mem_iff.2 h5)
  rw [← e]
  exact ⟨h4 h 0 k hh (Nat.zero_le _) hk, h4 h k (kP p - 1) hh (by omega) (by omega)⟩
theorem kP_le {p : PlanD} (hok : okPlan p = true) : kP p ≤ 100000 := by
  obtain ⟨⟨a1, a2, a3, a4, -⟩, -⟩ := okPlan_of hok
  have h1 := stL_len p a4 p.nH 0 (fun _ => -1)
  have h2 : 5 ^ p.nH ≤ 5 ^ 6 := Nat.pow_le_pow_right (by omega) a2
  unfold kP LsP
  omega
theorem all_mat {w : World} {base : Nat} {x : Value} {p : PlanD} (hok : okPlan p = true) (h : OwnLL w base x (LsP p)) : ∃ A c, x = .slice A (kP p) c ∧ Mat w A (kP p) p.nH (mmP p) := by
  obtain ⟨A, c, rfl, hr⟩ := h.rows
  exact ⟨A, c, rfl, Mat.of hr (fun i hi => mm_len hok hi)⟩

set_option maxHeartbeats 1000000 in
set_option maxRecDepth 1000000 in
theorem Middle_bad (AH AS AP : Option Addr) (cH cS cP : Nat) (K : Int) (p : PlanD) (w : World) (hp : PlanIn w AH AS AP p) (hok : okPlan p = false) :
    Lr 33 #[.agg #[.slice AH p.nH cH, .slice AS p.nS cS, .slice AP p.nP cP], .int .i64 K] w (.tuple #[.slice none 0 0, .int .i64 2]) := by
  have Hb0 := Lib.hid (below_box w (.cells #[.slice AH p.nH cH, .slice AS p.nS cS, .slice AP p.nP cP] 29))
  have hv := valid_any AH AS AP cH cS cP p _ (hp.keep Hb0.out)
  rw [hok] at hv
  have HV := Lib.hid hv
  clear hp hv hok
  show Calls _ _ _ _ _
  go_enter Try.func33, Try.ntmps33
  go_wp2_with fail
  refine Lr.use HV.out ?_
  intro w1 hb1
  have Hb1 := Lib.hid (Hb0.out.trans (hb1.mono Hb0.out.size))
  clear hb1
  go_wp2
  go_returns
  exact ⟨rfl, Hb1.out⟩
set_option maxHeartbeats 1000000 in
set_option maxRecDepth 1000000 in
theorem Middle_out (AH AS AP : Option Addr) (cH cS cP : Nat) (K : Int) (p : PlanD) (w : World) (hp : PlanIn w AH AS AP p) (hok : okPlan p = true) (hK : K < 1 ∨ (kP p : Int) < K) :
    Lr 33 #[.agg #[.slice AH p.nH cH, .slice AS p.nS cS, .slice AP p.nP cP], .int .i64 K] w (.tuple #[.slice none 0 0, .int .i64 2]) := by
  have Hb0 := Lib.hid (below_box w (.cells #[.slice AH p.nH cH, .slice AS p.nS cS, .slice AP p.nP cP] 29))
  have HB0 := Lib.hid (BoxP.new w AH AS AP p.nH p.nS p.nP cH cS cP)
  have hv := valid_any AH AS AP cH cS cP p _ (hp.keep Hb0.out)
  rw [hok] at hv
  have HV := Lib.hid hv
  have HA : Hid (∀ w', Below w.heap.size w w' → Calls Try.prog 57 #[.agg #[.slice AH p.nH cH, .slice AS p.nS cS, .slice AP p.nP cP]] w' fun e w'' => ∃ x, e = .returned x ∧ OwnLL w'' w'.heap.size x (stL p p.nH 0 (fun _ => -1)) ∧ Below w'.heap.size w' w'') := Lib.hid (fun w' hb => allStable_any AH AS AP cH cS cP p w' (hp.keep hb) hok)
  have HOk := Lib.hid hok
  clear hp hv hok
  show Calls _ _ _ _ _
  go_enter Try.func33, Try.ntmps33
  go_wp2_with fail
  refine Lr.use HV.out ?_
  intro w1 hb1
  have Hb1 := Lib.hid (Hb0.out.trans (hb1.mono Hb0.out.size))
  obtain ⟨k0, k1, k2⟩ := HB0.out.keep hb1
  clear hb1
  go_wp2_with fail
  refine (HA.out _ Hb1.out).mono ?_
  rintro e w2 ⟨x, rfl, hx, hb2⟩
  obtain ⟨A, c, rfl, -⟩ := all_mat HOk.out hx
  have Hb2 := Lib.hid (Hb1.out.trans (hb2.mono Hb1.out.size))
  clear hx hb2 k0 k1 k2
  generalize kP p = n at *
  by_cases h1 : K < 1
  · have d1 : decide (K < 1) = true := decide_eq_true h1
    go_wp2
    go_returns
    exact ⟨rfl, Hb2.out⟩
  · have d1 : decide (K < 1) = false := decide_eq_false h1
    have d2 : decide ((n : Int) < K) = true := decide_eq_true (by omega)
    go_wp2
    go_returns
    exact ⟨rfl, Hb2.out⟩
set_option maxHeartbeats 1000000 in
set_option maxRecDepth 1000000 in
theorem Middle_ok (AH AS AP : Option Addr) (cH cS cP K : Nat) (p : PlanD) (w : World) (hp : PlanIn w AH AS AP p) (hok : okPlan p = true) (h1 : 1 ≤ K) (h2 : K ≤ kP p) :
    Calls Try.prog 33 #[.agg #[.slice AH p.nH cH, .slice AS p.nS cS, .slice AP p.nP cP], .int .i64 K] w fun e w' => ∃ g, e = .returned (.tuple #[.slice (some ⟨g, 0, none⟩) p.nH p.nH, .int .i64 0]) ∧ RowI w' g p.nH (midG p (K - 1)) ∧ Below w.heap.size w w' := by
  have Hb0 := Lib.hid (below_box w (.cells #[.slice AH p.nH cH, .slice AS p.nS cS, .slice AP p.nP cP] 29))
  have HB0 := Lib.hid (BoxP.new w AH AS AP p.nH p.nS p.nP cH cS cP)
  have hv := valid_any AH AS AP cH cS cP p _ (hp.keep Hb0.out)
  rw [hok] at hv
  have HV := Lib.hid hv
  have HA : Hid (∀ w', Below w.heap.size w w' → Calls Try.prog 57 #[.agg #[.slice AH p.nH cH, .slice AS p.nS cS, .slice AP p.nP cP]] w' fun e w'' => ∃ x, e = .returned x ∧ OwnLL w'' w'.heap.size x (stL p p.nH 0 (fun _ => -1)) ∧ Below w'.heap.size w' w'') := Lib.hid (fun w' hb => allStable_any AH AS AP cH cS cP p w' (hp.keep hb) hok)
  have HOk := Lib.hid hok
  have HP := Lib.hid (fun w' (hb : Below w.heap.size w w') => hp.keep hb)
  have HMi : Hid (∀ (A : Option Addr) (c : Nat) (w' : World), Below w.heap.size w w' → Mat w' A (kP p) p.nH (mmP p) → Calls Try.prog 58 #[.agg #[.slice AH p.nH cH, .slice AS p.nS cS, .slice AP p.nP cP], .int .i64 K, .slice A (kP p) c] w' fun e w'' => ∃ g, e = .returned (.slice (some ⟨g, 0, none⟩) p.nH p.nH) ∧ RowI w'' g p.nH (midG p (K - 1)) ∧ Below w'.heap.size w' w'') := Lib.hid (fun A c w' hb hM => by
    obtain ⟨k, rfl⟩ : ∃ k, K = k + 1 := ⟨K - 1, by omega⟩
    exact middle_big AH AS AP A cH cS cP (kP p) c k p (mmP p) (midG p k) w' (hp.keep hb) hM (by have := kP_le hok; omega) (by omega) (fun h hh F hF hS => (midG_spec hok).2.1 h hh F hF hS k (by omega)))
  clear hp hv hok
  go_enter Try.func33, Try.ntmps33
  go_wp2_with fail
  refine Lr.use HV.out ?_
  intro w1 hb1
  have Hb1 := Lib.hid (Hb0.out.trans (hb1.mono Hb0.out.size))
  obtain ⟨k0, k1, k2⟩ := HB0.out.keep hb1
  have HBx1 := Lib.hid (HB0.out.keep hb1)
  clear hb1
  go_wp2_with fail
  refine (HA.out _ Hb1.out).mono ?_
  rintro e w2 ⟨x, rfl, hx, hb2⟩
  obtain ⟨A, c, rfl, hM⟩ := all_mat HOk.out hx
  have Hb2 := Lib.hid (Hb1.out.trans (hb2.mono Hb1.out.size))
  have HM2 := Lib.hid (HMi.out A c w2 Hb2.out hM)
  clear k0 k1 k2
  obtain ⟨k0, k1, k2⟩ := HBx1.out.keep hb2
  clear hx hb2 hM HMi
  generalize kP p = n at *
  have d1 : decide ((K : Int) < 1) = false := decide_eq_false (by omega)
  have d2 : decide ((n : Int) < K) = false := decide_eq_false (by omega)
  go_wp2_with fail
  refine HM2.out.mono ?_
  rintro e w3 ⟨g, rfl, hR, hb3⟩
  have HR := Lib.hid hR
  have Hb3 := Lib.hid (Hb2.out.trans (hb3.mono Hb2.out.size))
  clear hR hb3 k0 k1 k2
  go_wp2
  go_returns
  exact ⟨g, rfl, HR.out, Hb3.out⟩
set_option maxHeartbeats 1000000 in
set_option maxRecDepth 1000000 in
theorem Last_bad (AH AS AP : Option Addr) (cH cS cP : Nat) (p : PlanD) (w : World) (hp : PlanIn w AH AS AP p) (hok : okPlan p = false) :
    Lr 22 #[.agg #[.slice AH p.nH cH, .slice AS p.nS cS, .slice AP p.nP cP]] w (.tuple #[.slice none 0 0, .int .i64 2]) := by
  have Hb0 := Lib.hid (below_box w (.cells #[.slice AH p.nH cH, .slice AS p.nS cS, .slice AP p.nP cP] 29))
  have hv := valid_any AH AS AP cH cS cP p _ (hp.keep Hb0.out)
  rw [hok] at hv
  have HV := Lib.hid hv
  clear hp hv hok
  show Calls _ _ _ _ _
  go_enter Try.func22, Try.ntmps22
  go_wp2_with fail
  refine Lr.use HV.out ?_
  intro w1 hb1
  have Hb1 := Lib.hid (Hb0.out.trans (hb1.mono Hb0.out.size))
  clear hb1
  go_wp2
  go_returns
  exact ⟨rfl, Hb1.out⟩
set_option maxHeartbeats 1000000 in
set_option maxRecDepth 1000000 in
theorem Last_ok (AH AS AP : Option Addr) (cH cS cP : Nat) (p : PlanD) (w : World) (hp : PlanIn w AH AS AP p) (hok : okPlan p = true) :
    Calls Try.prog 22 #[.agg #[.slice AH p.nH cH, .slice AS p.nS cS, .slice AP p.nP cP]] w fun e w' => ∃ g, e = .returned (.tuple #[.slice (some ⟨g, 0, none⟩) p.nH p.nH, .int .i64 0]) ∧ RowI w' g p.nH (midG p (kP p - 1)) ∧ Below w.heap.size w w' := by
  have Hb0 := Lib.hid (below_box w (.cells #[.slice AH p.nH cH, .slice AS p.nS cS, .slice AP p.nP cP] 29))
  have HB0 := Lib.hid (BoxP.new w AH AS AP p.nH p.nS p.nP cH cS cP)
  have hv := valid_any AH AS AP cH cS cP p _ (hp.keep Hb0.out)
  rw [hok] at hv
  have HV := Lib.hid hv
  have HA : Hid (∀ w', Below w.heap.size w w' → Calls Try.prog 57 #[.agg #[.slice AH p.nH cH, .slice AS p.nS cS, .slice AP p.nP cP]] w' fun e w'' => ∃ x, e = .returned x ∧ OwnLL w'' w'.heap.size x (stL p p.nH 0 (fun _ => -1)) ∧ Below w'.heap.size w' w'') := Lib.hid (fun w' hb => allStable_any AH AS AP cH cS cP p w' (hp.keep hb) hok)
  have HOk := Lib.hid hok
  have hkp := kP_pos hok
  have HMi : Hid (∀ (A : Option Addr) (c : Nat) (w' : World), Below w.heap.size w w' → Mat w' A (kP p) p.nH (mmP p) → Calls Try.prog 58 #[.agg #[.slice AH p.nH cH, .slice AS p.nS cS, .slice AP p.nP cP], .int .i64 (kP p : Nat), .slice A (kP p) c] w' fun e w'' => ∃ g, e = .returned (.slice (some ⟨g, 0, none⟩) p.nH p.nH) ∧ RowI w'' g p.nH (midG p (kP p - 1)) ∧ Below w'.heap.size w' w'') := Lib.hid (fun A c w' hb hM => by
    have := middle_big AH AS AP A cH cS cP (kP p) c (kP p - 1) p (mmP p) (midG p (kP p - 1)) w' (hp.keep hb) hM (by have := kP_le hok; omega) (by omega) (fun h hh F hF hS => (midG_spec hok).2.1 h hh F hF hS (kP p - 1) (by omega))
    rw [show kP p - 1 + 1 = kP p by omega] at this
    exact this)
  clear hp hv hok
  go_enter Try.func22, Try.ntmps22
  go_wp2_with fail
  refine Lr.use HV.out ?_
  intro w1 hb1
  have Hb1 := Lib.hid (Hb0.out.trans (hb1.mono Hb0.out.size))
  obtain ⟨k0, k1, k2⟩ := HB0.out.keep hb1
  have HBx1 := Lib.hid (HB0.out.keep hb1)
  clear hb1
  go_wp2_with fail
  refine (HA.out _ Hb1.out).mono ?_
  rintro e w2 ⟨x, rfl, hx, hb2⟩
  obtain ⟨A, c, rfl, hM⟩ := all_mat HOk.out hx
  have Hb2 := Lib.hid (Hb1.out.trans (hb2.mono Hb1.out.size))
  have HM2 := Lib.hid (HMi.out A c w2 Hb2.out hM)
  clear k0 k1 k2
  obtain ⟨k0, k1, k2⟩ := HBx1.out.keep hb2
  clear hx hb2 hM HMi
  go_wp2_with fail
  refine HM2.out.mono ?_
  rintro e w3 ⟨g, rfl, hR, hb3⟩
  have HR := Lib.hid hR
  have Hb3 := Lib.hid (Hb2.out.trans (hb3.mono Hb2.out.size))
  clear hR hb3 k0 k1 k2
  go_wp2
  go_returns
  exact ⟨g, rfl, HR.out, Hb3.out⟩
end Go.Proofs.Ytiigcjcolpmafaa

/- slices.Equal of long lists of pairs; the reference's over and Covers. -/
namespace Go.Proofs.Ytiigcjcolpmafaa
open Go.RowKit

set_option maxHeartbeats 1000000 in
set_option maxRecDepth 1000000 in
theorem eqPrs_big (A B : Option Addr) (c c' : Nat) (xs : List (Int × Int)) (w : World) (hx : Prs w A xs) (hy : Prs w B xs) (hn : xs.length ≤ 20000000000) :
    Ro 40 #[.slice A xs.length c, .slice B xs.length c'] w (.bool true) := by
  refine Ro.of ?_
  obtain ⟨n, hnn⟩ : ∃ n, n = xs.length := ⟨_, rfl⟩
  have HX := Lib.hid hx
  have HY := Lib.hid hy
  have HN := Lib.hid hnn
  rw [← hnn] at hn ⊢
  have hB := bne_f (a := (n : Int)) rfl
  clear hx hy hnn
  go_enter Try.func40, Try.ntmps40
  go_wp2
  go_loopw [13] (fun i wr => ∃ k : Nat, k ≤ n ∧ i = .int .i64 k ∧ Dn w wr) (fun i _ => n - (intOf i).toNat)
  case atStart => exact ⟨0, Nat.zero_le _, rfl, Dn.refl _⟩
  case round =>
    obtain ⟨k, hk, rfl, hD⟩ := hrel
    by_cases hlt : k < n
    · obtain ⟨ba, rfl, ha⟩ := (HX.out.dn hD) (by have := HN.out; omega)
      obtain ⟨bb, rfl, hb⟩ := (HY.out.dn hD) (by have := HN.out; omega)
      obtain ⟨x1, x2⟩ := ha k (by have := HN.out; omega)
      obtain ⟨y1, y2⟩ := hb k (by have := HN.out; omega)
      clear ha hb
      generalize (xs.getD k (0, 0)).1 = p at *
      generalize (xs.getD k (0, 0)).2 = q at *
      have hpq : ∀ W, (binOp .neq 43 (.agg #[.int .i64 p, .int .i64 q]) (.agg #[.int .i64 p, .int .i64 q])).run Try.prog W = .ok (.bool false) W := fun W => by rw [pair_neq]; simp
      go_wp2
      go_quiet (fail)
      go_wp2
      go_roundw
      case rel => exact ⟨k + 1, by omega, by go_num, hD.drewN _⟩
      case measure => simp [intOf]; omega
    · obtain rfl : n = k := by omega
      go_wp2
      go_ret
      exact ⟨rfl, hD⟩


set_option maxHeartbeats 2000000 in
set_option maxRecDepth 1000000 in
theorem over_any (AH AS AP DA DB : Option Addr) (cH cS cP ca cb : Nat) (p : PlanD) (a b : Nat → Int) (w : World) (hp : PlanArg w AH AS AP cH cS cP p) (ha : Ints w DA p.nH a) (hb : Ints w DB p.nH b) (hok : okPlan p = true) (hsa : Stb p a) (hsb : Stb p b) :
    Lr 74 #[.agg #[.slice AH p.nH cH, .slice AS p.nS cS, .slice AP p.nP cP], .slice DA p.nH ca, .slice DB p.nH cb] w (.bool (ovB p a b)) := by
  have Hb0 := Lib.hid (below_box w (.cells #[.slice AH p.nH cH, .slice AS p.nS cS, .slice AP p.nP cP] 25))
  have HB0 := Lib.hid (BoxP.newR w AH AS AP p.nH p.nS p.nP cH cS cP)
  have HG1 := Lib.hid (Good_any AH AS AP DA DB cH cS cP ca p.nH cb p a b _ (hp.keep Hb0.out) (ha.keep Hb0.out) (hb.keep Hb0.out) rfl hok hsa hsb)
  have HG2 : Hid (∀ w', Below w.heap.size w w' → Lr 79 #[.agg #[.slice AH p.nH cH, .slice AS p.nS cS, .slice AP p.nP cP], .slice DB p.nH cb, .slice DA p.nH ca] w' (.bool (goB p b a))) := Lib.hid (fun w' h => Good_any AH AS AP DB DA cH cS cP cb p.nH ca p b a w' (hp.keep h) (hb.keep h) (ha.keep h) rfl hok hsb hsa)
  have HDf : Hid (ovB p a b = (goB p a b && !goB p b a)) := Lib.hid rfl
  clear hp ha hb hok hsa hsb
  rw [HDf.out]
  clear HDf
  generalize goB p a b = x at *
  generalize goB p b a = y at *
  unfold Lr
  cases x with
  | false =>
    go_enter Try.func74, Try.ntmps74
    go_wp2_with fail
    refine Lr.use HG1.out ?_
    intro w1 hb1
    have Hb1 := Lib.hid (Hb0.out.trans (hb1.mono Hb0.out.size))
    clear hb1 HG1
    go_wp2
    go_ret
    exact ⟨rfl, Hb1.out⟩
  | true =>
    go_enter Try.func74, Try.ntmps74
    go_wp2_with fail
    refine Lr.use HG1.out ?_
    intro w1 hb1
    have Hb1 := Lib.hid (Hb0.out.trans (hb1.mono Hb0.out.size))
    obtain ⟨q0, q1, q2⟩ := HB0.out.keep hb1
    clear hb1 HG1
    go_wp2_with fail
    refine Lr.use (HG2.out w1 Hb1.out) ?_
    intro w2 hb2
    have Hb2 := Lib.hid (Hb1.out.trans (hb2.mono Hb1.out.size))
    clear hb2 HG2 q0 q1 q2
    go_wp2
    go_ret
    exact ⟨by simp, Hb2.out⟩
theorem all_mat3 {w : World} {base : Nat} {x : Value} {p : PlanD} (hok : okPlan p = true) (h : OwnLL w base x (LsP p)) : ∃ b o c, x = .slice (some ⟨b, o, none⟩) (kP p) c ∧ Mat w (some ⟨b, o, none⟩) (kP p) p.nH (mmP p) := by
  obtain ⟨A, c, rfl, hM⟩ := all_mat hok h
  obtain ⟨b, o, A0, d0, rfl, -, -⟩ := hM.at (kP_pos hok)
  exact ⟨b, o, c, rfl, hM⟩
theorem nx_step (b : Bool) (P : Nat → Bool) (c : Nat) : (b && !anyB P (c + 1)) = ((b && !anyB P c) && !P c) := by
  simp only [anyB]
  cases b <;> cases anyB P c <;> cases P c <;> rfl
theorem pr_bd {p : PlanD} (hok : okPlan p = true) {B : Nat → Nat → Bool} {i j : Nat} (hi : i ≤ kP p) (hj : j ≤ kP p) : (prAll B (kP p) i ++ prRow B i j).length + 1 ≤ 10000200001 := by
  have h := kP_le hok
  have e1 := prAll_len B (kP p) i
  have e2 := prRow_len B i j
  have e3 : i * kP p ≤ 100000 * 100000 := Nat.mul_le_mul (by omega) (by omega)
  simp only [List.length_append]
  omega
set_option maxHeartbeats 4000000 in
set_option maxRecDepth 1000000 in
theorem rCovers_any (AH AS AP : Option Addr) (cH cS cP : Nat) (p : PlanD) (w : World) (hp : PlanArg w AH AS AP cH cS cP p) (hok : okPlan p = true) :
    Calls Try.prog 41 #[.agg #[.slice AH p.nH cH, .slice AS p.nS cS, .slice AP p.nP cP]] w fun e w' => ∃ x, e = .returned x ∧ OwnP w' w.heap.size x (prAll (cvR p) (kP p) (kP p)) ∧ Below w.heap.size w w' := by
  obtain ⟨i0, hi, hz0, hz1, hz2⟩ := info_parts infoPair
  have Hb0 := Lib.hid (below_box w (.cells #[.slice AH p.nH cH, .slice AS p.nS cS, .slice AP p.nP cP] 25))
  have HB0 := Lib.hid (BoxP.newR w AH AS AP p.nH p.nS p.nP cH cS cP)
  have HP := Lib.hid (fun w' (h : Below w.heap.size w w') => hp.keep h)
  have HOk := Lib.hid hok
  have HSb := Lib.hid (fun i (hi : i < kP p) => mm_stb hok hi)
  have HC := Lib.hid (rStable_any AH AS AP cH cS cP p hok _ (hp.keep Hb0.out))
  have hkl := kP_le hok
  have hkl2 : ((kP p : Nat) : Int) ≤ 100000 := by omega
  have HBd := Lib.hid (fun i j (hi : i ≤ kP p) (hj : j ≤ kP p) => pr_bd hok (B := cvR p) hi hj)
  clear hp hok
  go_enter Try.func41, Try.ntmps41
  go_wp2_with fail
  refine HC.out.mono ?_
  rintro e w0 ⟨x, rfl, hx, hb0⟩
  obtain ⟨bY, oY, cY, rfl, hM⟩ := all_mat3 HOk.out hx
  have Hbw := Lib.hid (Hb0.out.trans (hb0.mono Hb0.out.size))
  have HBx := Lib.hid (HB0.out.keep hb0)
  have HM := Lib.hid hM
  clear hx hb0 hM HC
  have hsz0 : w.heap.size + 1 ≤ w0.heap.size := World.block_lt_of_cell? _ _ HBx.out.1
  go_wp2
  go_loopw [3, 16] (fun s x wr => ∃ k : Nat, k ≤ kP p ∧ x = .int .i64 k ∧ OwnP wr w0.heap.size s (prAll (cvR p) (kP p) k) ∧ Below w0.heap.size w0 wr) (fun _ x _ => kP p - (intOf x).toNat)
  case atStart => exact ⟨0, Nat.zero_le _, rfl, World.ownsRow_nil _ _ _ _, Below.refl _ _⟩
  case round =>
    obtain ⟨i, hk, rfl, hown, hbel⟩ := hrel
    have HOwn := Lib.hid hown
    have Hbel := Lib.hid hbel
    clear hown hbel
    by_cases hlt : i < kP p
    · obtain ⟨AI, cI, eI, hI⟩ := HM.out.cell hlt
      have HI := Lib.hid hI
      have eI := old_cell eI Hbel.out
      have hii : (i : Int) < (kP p : Nat) := by omega
      clear hI
      go_wp2
      clear eI
      rename World => wo
      go_loopw [3, 23] (fun s x wi => ∃ k : Nat, k ≤ kP p ∧ x = .int .i64 k ∧ OwnP wi w0.heap.size s (prAll (cvR p) (kP p) i ++ prRow (cvR p) i k) ∧ Below w0.heap.size w0 wi) (fun _ x _ => kP p - (intOf x).toNat)
      case atStart => exact ⟨0, Nat.zero_le _, rfl, by simpa [prRow] using HOwn.out, Hbel.out⟩
      case round =>
        obtain ⟨j, hj, rfl, hown2, hbel2⟩ := hrel
        have HOwn2 := Lib.hid hown2
        have Hbel2 := Lib.hid hbel2
        clear hown2 hbel2
        by_cases hltj : j < kP p
        · obtain ⟨AJ, cJ, eJ, hJ⟩ := HM.out.cell hltj
          have HJ := Lib.hid hJ
          have eJ := old_cell eJ Hbel2.out
          have hji : (j : Int) < (kP p : Nat) := by omega
          obtain ⟨q0, q1, q2⟩ := HBx.out.keep Hbel2.out
          have HO := Lib.hid (over_any AH AS AP AI AJ cH cS cP cI cJ p (mmP p i) (mmP p j) wr (HP.out wr (Hbw.out.trans (Hbel2.out.mono Hbw.out.size))) (HI.out.keep Hbel2.out) (HJ.out.keep Hbel2.out) HOk.out (HSb.out i hlt) (HSb.out j hltj))
          clear hJ
          go_wp2_with fail
          refine Lr.use HO.out ?_
          intro w2 hb2
          have HOwn3 := Lib.hid (HOwn2.out.below hb2)
          have Hb2 := Lib.hid (Hbel2.out.trans (hb2.mono Hbel2.out.size))
          clear hb2 q0 q1 q2 HO eJ
          go_wp2
          rename World => wj
          go_loopw [9, 34] (fun nx x wi => ∃ c : Nat, c ≤ kP p ∧ x = .int .i64 c ∧ nx = .bool (ovB p (mmP p i) (mmP p j) && !anyB (btR p i j) c) ∧ Below wj.heap.size wj wi) (fun _ x _ => kP p - (intOf x).toNat)
          case atStart => exact ⟨0, Nat.zero_le _, rfl, by simp [anyB], Below.refl _ _⟩
          case round =>
            obtain ⟨c, hc, rfl, rfl, hbj⟩ := hrel
            have HBj4 := Lib.hid hbj
            have HOwn4 := Lib.hid (HOwn3.out.below hbj)
            have Hbel4 := Lib.hid (Hb2.out.trans (hbj.mono Hb2.out.size))
            clear hbj
            by_cases hltc : c < kP p
            · obtain ⟨AC, cC, eC, hC⟩ := HM.out.cell hltc
              have HCC := Lib.hid hC
              have eC := old_cell eC Hbel4.out
              have hci : (c : Int) < (kP p : Nat) := by omega
              obtain ⟨q0, q1, q2⟩ := HBx.out.keep Hbel4.out
              have HO1 := Lib.hid (over_any AH AS AP AI AC cH cS cP cI cC p (mmP p i) (mmP p c) wr (HP.out wr (Hbw.out.trans (Hbel4.out.mono Hbw.out.size))) (HI.out.keep Hbel4.out) (HCC.out.keep Hbel4.out) HOk.out (HSb.out i hlt) (HSb.out c hltc))
              have HO2 : Hid (∀ w', Below w0.heap.size w0 w' → Lr 74 #[.agg #[.slice AH p.nH cH, .slice AS p.nS cS, .slice AP p.nP cP], .slice AC p.nH cC, .slice AJ p.nH cJ] w' (.bool (ovB p (mmP p c) (mmP p j)))) := Lib.hid (fun w' h => over_any AH AS AP AC AJ cH cS cP cC cJ p (mmP p c) (mmP p j) w' (HP.out w' (Hbw.out.trans (h.mono Hbw.out.size))) (HCC.out.keep h) (HJ.out.keep h) HOk.out (HSb.out c hltc) (HSb.out j hltj))
              have HN := Lib.hid (nx_step (ovB p (mmP p i) (mmP p j)) (btR p i j) c)
              have HBt : Hid (btR p i j c = (ovB p (mmP p i) (mmP p c) && ovB p (mmP p c) (mmP p j))) := Lib.hid rfl
              rw [HBt.out] at HN
              clear hC HBt
              generalize (ovB p (mmP p i) (mmP p j) && !anyB (btR p i j) c) = nx at *
              generalize ovB p (mmP p i) (mmP p c) = y1 at *
              generalize ovB p (mmP p c) (mmP p j) = y2 at *
              cases y1 with
              | false =>
                go_wp2_with fail
                refine Lr.use HO1.out ?_
                intro w5 hb5
                have HBj5 := Lib.hid (HBj4.out.trans (hb5.mono HBj4.out.size))
                have Hb5 := Lib.hid (Hbel4.out.trans (hb5.mono Hbel4.out.size))
                clear hb5 q0 q1 q2 HO1 eC
                go_wp2
                go_roundw
                case rel => exact ⟨c + 1, by omega, by go_num, by rw [HN.out]; simp, HBj5.out⟩
                case measure => simp [intOf]; omega
              | true =>
                go_wp2_with fail
                refine Lr.use HO1.out ?_
                intro w5 hb5
                have HBj5 := Lib.hid (HBj4.out.trans (hb5.mono HBj4.out.size))
                have Hb5 := Lib.hid (Hbel4.out.trans (hb5.mono Hbel4.out.size))
                clear hb5 q0 q1 q2 HO1 eC
                obtain ⟨q0, q1, q2⟩ := HBx.out.keep Hb5.out
                cases y2 with
                | false =>
                  go_wp2_with fail
                  refine Lr.use (HO2.out w5 Hb5.out) ?_
                  intro w6 hb6
                  have HBj6 := Lib.hid (HBj5.out.trans (hb6.mono HBj5.out.size))
                  have Hb6 := Lib.hid (Hb5.out.trans (hb6.mono Hb5.out.size))
                  clear hb6 q0 q1 q2 HO2
                  go_wp2
                  go_roundw
                  case rel => exact ⟨c + 1, by omega, by go_num, by rw [HN.out]; simp, HBj6.out⟩
                  case measure => simp [intOf]; omega
                | true =>
                  go_wp2_with fail
                  refine Lr.use (HO2.out w5 Hb5.out) ?_
                  intro w6 hb6
                  have HBj6 := Lib.hid (HBj5.out.trans (hb6.mono HBj5.out.size))
                  have Hb6 := Lib.hid (Hb5.out.trans (hb6.mono Hb5.out.size))
                  clear hb6 q0 q1 q2 HO2
                  go_wp2
                  go_roundw
                  case rel => exact ⟨c + 1, by omega, by go_num, by rw [HN.out]; simp, HBj6.out⟩
                  case measure => simp [intOf]; omega
            · obtain rfl : c = kP p := by omega
              have HCv : Hid (cvR p i j = (ovB p (mmP p i) (mmP p j) && !anyB (btR p i j) (kP p))) := Lib.hid rfl
              rw [← HCv.out]
              clear HCv
              rename World => w2
              have hsz : w0.heap.size ≤ w2.heap.size := Hbel4.out.size
              cases he : cvR p i j with
              | false =>
                have HE := Lib.hid he
                clear he
                go_wp2
                go_roundw
                case rel => exact ⟨j + 1, by omega, by go_num, by simpa [prRow, HE.out] using HOwn4.out, Hbel4.out⟩
                case measure => simp [intOf]; omega
              | true =>
                have HE := Lib.hid he
                clear he
                have HLen := Lib.hid (HBd.out i j hk hj)
                go_wp2_with (at_builtin; go_loud (refine wpList_append_own _ rfl _ _ 38 rfl w0.heap.size 43 i0 (.agg #[.int .i64 0, .int .i64 0]) 2 16 Try.underlying38 hi hz0 hz1 hz2 rfl (by decide) _ _ _ rfl (World.ownsRow.alloc HOwn4.out _) ⟨w2.heap.size, 0, none⟩ 1 1 [.int .i64 i, .int .i64 j] rfl rfl (newsP _ _ _ _) (oneP2 _ _) (by have := HLen.out; unfold maxLen; omega) (by have := HLen.out; omega) (by simp; omega) ?_))
                intro v' w3 hown3 hgrow3 _
                have HO3 := Lib.hid hown3
                have HG3 := Lib.hid hgrow3
                have Hb3 : Hid (Below w0.heap.size w0 w3) := Lib.hid ((Hbel4.out.alloc (by omega) _).grown HG3.out (by simp; omega) (fun g hg => by have := (World.ownsRow.lt HOwn4.out g hg).1; omega))
                clear hown3 hgrow3
                go_wp2
                go_roundw
                case rel =>
                  refine ⟨j + 1, by omega, by go_num, ?_, Hb3.out⟩
                  unfold OwnP
                  simp only [prRow, HE.out, if_true]
                  rw [← List.append_assoc, cellsP_snoc]
                  simpa [Nat.add_assoc] using HO3.out
                case measure => simp [intOf]; omega
        · obtain rfl : j = kP p := by omega
          go_wp2
          go_roundw
          case rel => exact ⟨i + 1, by omega, by go_num, by simpa [prAll] using HOwn2.out, Hbel2.out⟩
          case measure => simp [intOf]; omega
    · obtain rfl : i = kP p := by omega
      go_wp2
      go_ret
      exact ⟨_, rfl, HOwn.out.base (by omega), Hbw.out.trans (Hbel.out.mono Hbw.out.size)⟩
end Go.Proofs.Ytiigcjcolpmafaa

/- The program's Covers. -/
namespace Go.Proofs.Ytiigcjcolpmafaa
open Go.RowKit

set_option maxHeartbeats 1000000 in
set_option maxRecDepth 1000000 in
theorem Covers_bad (AH AS AP : Option Addr) (cH cS cP : Nat) (p : PlanD) (w : World) (hp : PlanIn w AH AS AP p) (hok : okPlan p = false) :
    Lr 24 #[.agg #[.slice AH p.nH cH, .slice AS p.nS cS, .slice AP p.nP cP]] w (.tuple #[.slice none 0 0, .int .i64 2]) := by
  have Hb0 := Lib.hid (below_box w (.cells #[.slice AH p.nH cH, .slice AS p.nS cS, .slice AP p.nP cP] 29))
  have HB0 := Lib.hid (BoxP.new w AH AS AP p.nH p.nS p.nP cH cS cP)
  have hv := valid_any AH AS AP cH cS cP p _ (hp.keep Hb0.out)
  rw [hok] at hv
  have HV := Lib.hid hv
  clear hp hv hok
  show Calls _ _ _ _ _
  go_enter Try.func24, Try.ntmps24
  go_wp2_with fail
  refine Lr.use HV.out ?_
  intro w1 hb1
  have Hb1 := Lib.hid (Hb0.out.trans (hb1.mono Hb0.out.size))
  clear hb1
  go_wp2
  go_returns
  exact ⟨rfl, Hb1.out⟩
theorem bp_no {p : PlanD} {i j : Nat} (h : (!decide (j = i) && goB p (mmP p i) (mmP p j)) = false) : cvP p i j = false := by
  unfold cvP
  rw [h]
  rfl
theorem bp_bt {p : PlanD} {i j c : Nat} (hc : c < kP p) (h : btP p i j c = true) : cvP p i j = false := by
  unfold cvP
  rw [anyB_t (p := btP p i j) hc h]
  simp
theorem bp_yes {p : PlanD} {i j : Nat} (h : (!decide (j = i) && goB p (mmP p i) (mmP p j)) = true) (hn : NoneLt (btP p i j) (kP p)) : cvP p i j = true := by
  unfold cvP
  rw [h, anyB_f hn]
  rfl
set_option maxHeartbeats 4000000 in
set_option maxRecDepth 1000000 in
theorem Covers_ok (AH AS AP : Option Addr) (cH cS cP : Nat) (p : PlanD) (w : World) (hp : PlanIn w AH AS AP p) (hok : okPlan p = true) :
    Calls Try.prog 24 #[.agg #[.slice AH p.nH cH, .slice AS p.nS cS, .slice AP p.nP cP]] w fun e w' => ∃ x, e = .returned (.tuple #[x, .int .i64 0]) ∧ OwnP w' w.heap.size x (prAll (cvP p) (kP p) (kP p)) ∧ Below w.heap.size w w' := by
  obtain ⟨i0, hi, hz0, hz1, hz2⟩ := info_parts infoPair
  have Hb0 := Lib.hid (below_box w (.cells #[.slice AH p.nH cH, .slice AS p.nS cS, .slice AP p.nP cP] 29))
  have HB0 := Lib.hid (BoxP.new w AH AS AP p.nH p.nS p.nP cH cS cP)
  have hv := valid_any AH AS AP cH cS cP p _ (hp.keep Hb0.out)
  rw [hok] at hv
  have HV := Lib.hid hv
  have HP := Lib.hid (fun w' (h : Below w.heap.size w w') => hp.keep h)
  have HOk := Lib.hid hok
  have HC : Hid (∀ w', Below w.heap.size w w' → Calls Try.prog 57 #[.agg #[.slice AH p.nH cH, .slice AS p.nS cS, .slice AP p.nP cP]] w' fun e w'' => ∃ x, e = .returned x ∧ OwnLL w'' w'.heap.size x (stL p p.nH 0 (fun _ => -1)) ∧ Below w'.heap.size w' w'') := Lib.hid (fun w' hb => allStable_any AH AS AP cH cS cP p w' (hp.keep hb) hok)
  have hkl := kP_le hok
  have hkl2 : ((kP p : Nat) : Int) ≤ 100000 := by omega
  have HBd := Lib.hid (fun i j (hi : i ≤ kP p) (hj : j ≤ kP p) => pr_bd hok (B := cvP p) hi hj)
  clear hp hok hv
  go_enter Try.func24, Try.ntmps24
  go_wp2_with fail
  refine Lr.use HV.out ?_
  intro w1 hb1
  have Hb1 := Lib.hid (Hb0.out.trans (hb1.mono Hb0.out.size))
  have HBx1 := Lib.hid (HB0.out.keep hb1)
  obtain ⟨q0, q1, q2⟩ := HBx1.out
  clear hb1 HV
  go_wp2_with fail
  refine (HC.out w1 Hb1.out).mono ?_
  rintro e w0 ⟨x, rfl, hx, hb0⟩
  obtain ⟨bY, oY, cY, rfl, hM⟩ := all_mat3 HOk.out hx
  have Hbw := Lib.hid (Hb1.out.trans (hb0.mono Hb1.out.size))
  have HBx := Lib.hid (HBx1.out.keep hb0)
  have HM := Lib.hid hM
  clear hx hb0 hM HC q0 q1 q2
  have hsz0 : w.heap.size + 1 ≤ w0.heap.size := World.block_lt_of_cell? _ _ HBx.out.1
  go_wp2
  go_loopw [5, 16] (fun s x wr => ∃ k : Nat, k ≤ kP p ∧ x = .int .i64 k ∧ OwnP wr w0.heap.size s (prAll (cvP p) (kP p) k) ∧ Below w0.heap.size w0 wr) (fun _ x _ => kP p - (intOf x).toNat)
  case atStart => exact ⟨0, Nat.zero_le _, rfl, World.ownsRow_nil _ _ _ _, Below.refl _ _⟩
  case round =>
    obtain ⟨i, hk, rfl, hown, hbel⟩ := hrel
    have HOwn := Lib.hid hown
    have Hbel := Lib.hid hbel
    clear hown hbel
    by_cases hlt : i < kP p
    · obtain ⟨AI, cI, eI, hI⟩ := HM.out.cell hlt
      have HI := Lib.hid hI
      have HEI := Lib.hid eI
      have hii : (i : Int) < (kP p : Nat) := by omega
      clear hI eI
      go_wp2
      go_step3
      go_wp2
      go_step3
      go_wp2
      rename World => wo
      go_loopw [5, 21] (fun s x wi => ∃ k : Nat, k ≤ kP p ∧ x = .int .i64 k ∧ OwnP wi w0.heap.size s (prAll (cvP p) (kP p) i ++ prRow (cvP p) i k) ∧ Below w0.heap.size w0 wi) (fun _ x _ => kP p - (intOf x).toNat)
      case atStart => exact ⟨0, Nat.zero_le _, rfl, by simpa [prRow] using HOwn.out, Hbel.out⟩
      case round =>
        obtain ⟨j, hj, rfl, hown2, hbel2⟩ := hrel
        have HOwn2 := Lib.hid hown2
        have Hbel2 := Lib.hid hbel2
        clear hown2 hbel2
        by_cases hltj : j < kP p
        · obtain ⟨AJ, cJ, eJ, hJ⟩ := HM.out.cell hltj
          have HJ := Lib.hid hJ
          have HEJ := Lib.hid eJ
          have hji : (j : Int) < (kP p : Nat) := by omega
          clear hJ eJ
          have HNo := Lib.hid (bp_no (p := p) (i := i) (j := j))
          by_cases hne : j = i
          · have b1 := beq_t (show (j : Int) = i by omega)
            have HN2 := Lib.hid (HNo.out (by simp [hne]))
            clear hne HNo
            go_wp2_with fail
            go_quiet (fail)
            rename_i nq
            have HB2 := Lib.hid (((Dn.refl wr).drewN nq).below wr.heap.size)
            have HOwn3 := Lib.hid (HOwn2.out.below HB2.out)
            have Hb2 := Lib.hid (Hbel2.out.trans (HB2.out.mono Hbel2.out.size))
            go_wp2
            go_roundw
            case rel => exact ⟨j + 1, by omega, by go_num, by simpa [prRow, HN2.out] using HOwn3.out, Hb2.out⟩
            case measure => simp [intOf]; omega
          · have b1 := beq_f (show ¬ (j : Int) = i by omega)
            have HNe := Lib.hid hne
            have HA1 := Lib.hid (fun q : Later wr => asGood_any AH AS AP AI AJ cH cS cP cI p.nH cJ p (mmP p i) (mmP p j) q.to (HP.out q.to (Hbw.out.trans ((Hbel2.out.trans (q.below.mono Hbel2.out.size)).mono Hbw.out.size))) (HI.out.keep (Hbel2.out.trans (q.below.mono Hbel2.out.size))) (HJ.out.keep (Hbel2.out.trans (q.below.mono Hbel2.out.size))) rfl HOk.out)
            obtain ⟨y0, y1, y2⟩ := HBx.out.keep Hbel2.out
            have eI := old_cell HEI.out Hbel2.out
            have eJ := old_cell HEJ.out Hbel2.out
            have k0 : ∀ q : Later wr, q.to.cell? ⟨w.heap.size, 0, none⟩ = some (.slice AH p.nH cH) := fun q => q.cell y0
            have k1 : ∀ q : Later wr, q.to.cell? ⟨w.heap.size, 1, none⟩ = some (.slice AS p.nS cS) := fun q => q.cell y1
            have k2 : ∀ q : Later wr, q.to.cell? ⟨w.heap.size, 2, none⟩ = some (.slice AP p.nP cP) := fun q => q.cell y2
            have k3 : ∀ q : Later wr, q.to.cell? ⟨bY, oY + i, none⟩ = some (.slice AI p.nH cI) := fun q => q.cell eI
            have k4 : ∀ q : Later wr, q.to.cell? ⟨bY, oY + j, none⟩ = some (.slice AJ p.nH cJ) := fun q => q.cell eJ
            have HGd : Hid (cvP p i j = false ∨ goB p (mmP p i) (mmP p j) = true) := Lib.hid (by
              cases h : goB p (mmP p i) (mmP p j) with
              | true => exact .inr rfl
              | false => exact .inl (HNo.out (by rw [h]; simp)))
            clear y0 y1 y2 eI eJ hne HNo
            cases hg : goB p (mmP p i) (mmP p j) with
            | false =>
              have HN2 : Hid (cvP p i j = false) := Lib.hid (by rcases HGd.out with h | h; exact h; rw [hg] at h; cases h)
              rw [hg] at HA1
              clear hg HGd
              go_wp2_with fail
              refine wp_region_later (by kernel_rfl) (by kernel_rfl) ?_
              repeat
                (with_reducible refine wpQuiet_step ?_
                 intro K hK
                 go_simp
                 first
                   | (refine hK _ ?_; clear hK K)
                   | (apply Exists.intro
                      refine ⟨fun _ => ?_, hK _ ?_⟩
                      (first | (go_at_call 59; exact Lr.later (HA1.out _)))
                      clear hK K))
              with_reducible refine wpQuiet_nil ?_
              intro _ hw'
              obtain ⟨q, rfl⟩ := hw'
              have HOwn3 := Lib.hid (HOwn2.out.below q.below)
              have Hb2 := Lib.hid (Hbel2.out.trans (q.below.mono Hbel2.out.size))
              clear k0 k1 k2 k3 k4
              generalize q.to = wy at *
              go_wp2
              go_roundw
              case rel => exact ⟨j + 1, by omega, by go_num, by simpa [prRow, HN2.out] using HOwn3.out, Hb2.out⟩
              case measure => simp [intOf]; omega
            | true =>
              have HGo := Lib.hid hg
              rw [hg] at HA1
              clear hg HGd
              go_wp2_with fail
              refine wp_region_later (by kernel_rfl) (by kernel_rfl) ?_
              repeat
                (with_reducible refine wpQuiet_step ?_
                 intro K hK
                 go_simp
                 first
                   | (refine hK _ ?_; clear hK K)
                   | (apply Exists.intro
                      refine ⟨fun _ => ?_, hK _ ?_⟩
                      (first | (go_at_call 59; exact Lr.later (HA1.out _)))
                      clear hK K))
              with_reducible refine wpQuiet_nil ?_
              intro _ hw'
              obtain ⟨q, rfl⟩ := hw'
              have HOwn3 := Lib.hid (HOwn2.out.below q.below)
              have Hb2 := Lib.hid (Hbel2.out.trans (q.below.mono Hbel2.out.size))
              clear k0 k1 k2 k3 k4
              generalize q.to = wj at *
              go_wp2
              go_loopw [42] (fun x wi => ∃ c : Nat, c ≤ kP p ∧ x = .int .i64 c ∧ NoneLt (btP p i j) c ∧ Below wj.heap.size wj wi) (fun x _ => kP p - (intOf x).toNat)
              case atStart => exact ⟨0, Nat.zero_le _, rfl, NoneLt.zero, Below.refl _ _⟩
              case round =>
                obtain ⟨c, hc, rfl, hn, hbj⟩ := hrel
                have HBj4 := Lib.hid hbj
                have HNn := Lib.hid hn
                have HOwn4 := Lib.hid (HOwn3.out.below hbj)
                have Hbel4 := Lib.hid (Hb2.out.trans (hbj.mono Hb2.out.size))
                clear hbj hn
                by_cases hltc : c < kP p
                · obtain ⟨AC, cC, eC, hC⟩ := HM.out.cell hltc
                  have HCC := Lib.hid hC
                  have HEC := Lib.hid eC
                  have hci : (c : Int) < (kP p : Nat) := by omega
                  clear hC eC
                  have HBt : Hid (btP p i j c = ((!decide (c = i) && !decide (c = j)) && (goB p (mmP p i) (mmP p c) && goB p (mmP p c) (mmP p j)))) := Lib.hid rfl
                  have HSu := Lib.hid (fun h => HNn.out.succ (p := btP p i j) h)
                  by_cases h1 : c = i
                  · have b2 := bne_f (show (c : Int) = i by omega)
                    have HS2 := Lib.hid (HSu.out (by rw [HBt.out]; simp [h1]))
                    clear h1 HBt HSu
                    go_wp2_with fail
                    go_quiet (fail)
                    rename_i nq
                    have HB2 := Lib.hid (((Dn.refl wr).drewN nq).below wr.heap.size)
                    have HBj5 := Lib.hid (HBj4.out.trans (HB2.out.mono HBj4.out.size))
                    go_wp2
                    go_roundw
                    case rel => exact ⟨c + 1, by omega, by go_num, HS2.out, HBj5.out⟩
                    case measure => simp [intOf]; omega
                  · by_cases h2 : c = j
                    · have b2 := bne_t (show ¬ (c : Int) = i by omega)
                      have b3 := bne_f (show (c : Int) = j by omega)
                      have HS2 := Lib.hid (HSu.out (by rw [HBt.out]; simp [h2]))
                      clear h1 h2 HBt HSu
                      go_wp2_with fail
                      go_quiet (fail)
                      rename_i nq
                      have HB2 := Lib.hid (((Dn.refl wr).drewN nq).below wr.heap.size)
                      have HBj5 := Lib.hid (HBj4.out.trans (HB2.out.mono HBj4.out.size))
                      go_wp2
                      go_roundw
                      case rel => exact ⟨c + 1, by omega, by go_num, HS2.out, HBj5.out⟩
                      case measure => simp [intOf]; omega
                    · have b2 := bne_t (show ¬ (c : Int) = i by omega)
                      have b3 := bne_t (show ¬ (c : Int) = j by omega)
                      have HBt2 : Hid (btP p i j c = (goB p (mmP p i) (mmP p c) && goB p (mmP p c) (mmP p j))) := Lib.hid (by rw [HBt.out]; simp [h1, h2])
                      have HA2 := Lib.hid (fun q : Later wr => asGood_any AH AS AP AI AC cH cS cP cI p.nH cC p (mmP p i) (mmP p c) q.to (HP.out q.to (Hbw.out.trans ((Hbel4.out.trans (q.below.mono Hbel4.out.size)).mono Hbw.out.size))) (HI.out.keep (Hbel4.out.trans (q.below.mono Hbel4.out.size))) (HCC.out.keep (Hbel4.out.trans (q.below.mono Hbel4.out.size))) rfl HOk.out)
                      have HA3 := Lib.hid (fun q : Later wr => asGood_any AH AS AP AC AJ cH cS cP cC p.nH cJ p (mmP p c) (mmP p j) q.to (HP.out q.to (Hbw.out.trans ((Hbel4.out.trans (q.below.mono Hbel4.out.size)).mono Hbw.out.size))) (HCC.out.keep (Hbel4.out.trans (q.below.mono Hbel4.out.size))) (HJ.out.keep (Hbel4.out.trans (q.below.mono Hbel4.out.size))) rfl HOk.out)
                      have HBc := Lib.hid (bp_bt (p := p) (i := i) (j := j) hltc)
                      obtain ⟨y0, y1, y2⟩ := HBx.out.keep Hbel4.out
                      have eI := old_cell HEI.out Hbel4.out
                      have eJ := old_cell HEJ.out Hbel4.out
                      have eC := old_cell HEC.out Hbel4.out
                      have k0 : ∀ q : Later wr, q.to.cell? ⟨w.heap.size, 0, none⟩ = some (.slice AH p.nH cH) := fun q => q.cell y0
                      have k1 : ∀ q : Later wr, q.to.cell? ⟨w.heap.size, 1, none⟩ = some (.slice AS p.nS cS) := fun q => q.cell y1
                      have k2 : ∀ q : Later wr, q.to.cell? ⟨w.heap.size, 2, none⟩ = some (.slice AP p.nP cP) := fun q => q.cell y2
                      have k3 : ∀ q : Later wr, q.to.cell? ⟨bY, oY + i, none⟩ = some (.slice AI p.nH cI) := fun q => q.cell eI
                      have k4 : ∀ q : Later wr, q.to.cell? ⟨bY, oY + j, none⟩ = some (.slice AJ p.nH cJ) := fun q => q.cell eJ
                      have k5 : ∀ q : Later wr, q.to.cell? ⟨bY, oY + c, none⟩ = some (.slice AC p.nH cC) := fun q => q.cell eC
                      clear y0 y1 y2 eI eJ eC h1 h2 HBt
                      generalize goB p (mmP p i) (mmP p c) = g1 at *
                      generalize goB p (mmP p c) (mmP p j) = g2 at *
                      cases g1 with
                      | false =>
                        have HS2 := Lib.hid (HSu.out (by rw [HBt2.out]; rfl))
                        clear HBt2 HSu HBc
                        go_wp2_with fail
                        refine wp_region_later (by kernel_rfl) (by kernel_rfl) ?_
                        repeat
                          (with_reducible refine wpQuiet_step ?_
                           intro K hK
                           go_simp
                           first
                             | (refine hK _ ?_; clear hK K)
                             | (apply Exists.intro
                                refine ⟨fun _ => ?_, hK _ ?_⟩
                                (first | (go_at_call_of 59 AJ; exact Lr.later (HA3.out _)) | (go_at_call_of 59 AI; exact Lr.later (HA2.out _)))
                                clear hK K))
                        with_reducible refine wpQuiet_nil ?_
                        intro _ hw'
                        obtain ⟨q, rfl⟩ := hw'
                        clear k0 k1 k2 k3 k4 k5
                        have HBj5 := Lib.hid (HBj4.out.trans (q.below.mono HBj4.out.size))
                        generalize q.to = wy at *
                        go_wp2
                        go_roundw
                        case rel => exact ⟨c + 1, by omega, by go_num, HS2.out, HBj5.out⟩
                        case measure => simp [intOf]; omega
                      | true =>
                        cases g2 with
                        | false =>
                          have HS2 := Lib.hid (HSu.out (by rw [HBt2.out]; rfl))
                          clear HBt2 HSu HBc
                          go_wp2_with fail
                          refine wp_region_later (by kernel_rfl) (by kernel_rfl) ?_
                          repeat
                            (with_reducible refine wpQuiet_step ?_
                             intro K hK
                             go_simp
                             first
                               | (refine hK _ ?_; clear hK K)
                               | (apply Exists.intro
                                  refine ⟨fun _ => ?_, hK _ ?_⟩
                                  (first | (go_at_call_of 59 AJ; exact Lr.later (HA3.out _)) | (go_at_call_of 59 AI; exact Lr.later (HA2.out _)))
                                  clear hK K))
                          with_reducible refine wpQuiet_nil ?_
                          intro _ hw'
                          obtain ⟨q, rfl⟩ := hw'
                          clear k0 k1 k2 k3 k4 k5
                          have HBj5 := Lib.hid (HBj4.out.trans (q.below.mono HBj4.out.size))
                          generalize q.to = wy at *
                          go_wp2
                          go_roundw
                          case rel => exact ⟨c + 1, by omega, by go_num, HS2.out, HBj5.out⟩
                          case measure => simp [intOf]; omega
                        | true =>
                          have HN2 := Lib.hid (HBc.out (by rw [HBt2.out]; rfl))
                          clear HBt2 HSu HBc
                          go_wp2_with fail
                          refine wp_region_later (by kernel_rfl) (by kernel_rfl) ?_
                          repeat
                            (with_reducible refine wpQuiet_step ?_
                             intro K hK
                             go_simp
                             first
                               | (refine hK _ ?_; clear hK K)
                               | (apply Exists.intro
                                  refine ⟨fun _ => ?_, hK _ ?_⟩
                                  (first | (go_at_call_of 59 AJ; exact Lr.later (HA3.out _)) | (go_at_call_of 59 AI; exact Lr.later (HA2.out _)))
                                  clear hK K))
                          with_reducible refine wpQuiet_nil ?_
                          intro _ hw'
                          obtain ⟨q, rfl⟩ := hw'
                          clear k0 k1 k2 k3 k4 k5
                          have HOwn5 := Lib.hid (HOwn4.out.below q.below)
                          have Hb5 := Lib.hid (Hbel4.out.trans (q.below.mono Hbel4.out.size))
                          generalize q.to = wy at *
                          go_wp2
                          go_roundw
                          case rel => exact ⟨j + 1, by omega, by go_num, by simpa [prRow, HN2.out] using HOwn5.out, Hb5.out⟩
                          case measure => simp [intOf]; omega
                · obtain rfl : c = kP p := by omega
                  have HE := Lib.hid (bp_yes (p := p) (i := i) (j := j) (by rw [HGo.out]; simp [HNe.out]) HNn.out)
                  rename World => w2
                  have hsz : w0.heap.size ≤ w2.heap.size := Hbel4.out.size
                  have HLen := Lib.hid (HBd.out i j hk hj)
                  go_wp2_with (at_builtin; go_loud (refine wpList_append_own _ rfl _ _ 38 rfl w0.heap.size 43 i0 (.agg #[.int .i64 0, .int .i64 0]) 2 16 Try.underlying38 hi hz0 hz1 hz2 rfl (by decide) _ _ _ rfl (World.ownsRow.alloc HOwn4.out _) ⟨w2.heap.size, 0, none⟩ 1 1 [.int .i64 i, .int .i64 j] rfl rfl (newsP _ _ _ _) (oneP2 _ _) (by have := HLen.out; unfold maxLen; omega) (by have := HLen.out; omega) (by simp; omega) ?_))
                  intro v' w3 hown3 hgrow3 _
                  have HO3 := Lib.hid hown3
                  have HG3 := Lib.hid hgrow3
                  have Hb3 : Hid (Below w0.heap.size w0 w3) := Lib.hid ((Hbel4.out.alloc (by omega) _).grown HG3.out (by simp; omega) (fun g hg => by have := (World.ownsRow.lt HOwn4.out g hg).1; omega))
                  clear hown3 hgrow3
                  go_wp2
                  go_roundw
                  case rel =>
                    refine ⟨j + 1, by omega, by go_num, ?_, Hb3.out⟩
                    unfold OwnP
                    simp only [prRow, HE.out, if_true]
                    rw [← List.append_assoc, cellsP_snoc]
                    simpa [Nat.add_assoc] using HO3.out
                  case measure => simp [intOf]; omega
        · obtain rfl : j = kP p := by omega
          go_wp2
          rw [Exit.noGoto_normal]
          go_wp2
          go_roundw
          case rel => exact ⟨i + 1, by omega, by go_num, by simpa [prAll] using HOwn2.out, Hbel2.out⟩
          case measure => simp [intOf]; omega
    · obtain rfl : i = kP p := by omega
      go_wp2
      go_returns
      exact ⟨_, rfl, HOwn.out.base (by omega), Hbw.out.trans (Hbel.out.mono Hbw.out.size)⟩
end Go.Proofs.Ytiigcjcolpmafaa

/- The few's stable matchings are the plan's. -/
namespace Go.Proofs.Ytiigcjcolpmafaa
open Go.RowKit

theorem few_okT {p : PlanD} (hok : okPlan p = true) : okPlan (fewP p) = true := by rw [okPlan_few]; exact hok
theorem few_stb {p : PlanD} (hok : okPlan p = true) {u : Nat → Int} : Stb (fewP p) u ↔ Stb p u := by
  obtain ⟨⟨a1, a2, -, -, -⟩, -⟩ := okPlan_of hok
  rw [← stb_iff (few_okT hok), ← stb_iff hok, stab_few hok]
  have e : okMat (fewP p) (fewP p).nH u = okMat p p.nH u := by
    have := okMat_few p p.nH u
    rw [show min p.nH 9 = (fewP p).nH by rw [(few_n hok).1]; omega] at this
    exact this
  rw [e]
theorem few_rHd {p : PlanD} (hok : okPlan p = true) {h : Nat} (hh : h < p.nH) (s : Int) : rHd (fewP p) h s = rHd p h s := by
  unfold rHd
  rw [(few_n hok).2.2.1 h hh]
  rfl
theorem few_LsP {p : PlanD} (hok : okPlan p = true) : stL (fewP p) (fewP p).nH 0 (fun _ => -1) = stL p p.nH 0 (fun _ => -1) := by
  rw [(few_n hok).1]
  exact stL_few hok _ _ _ (by omega)
theorem few_kP {p : PlanD} (hok : okPlan p = true) : kP (fewP p) = kP p := by
  unfold kP LsP
  rw [few_LsP hok]
theorem few_mmP {p : PlanD} (hok : okPlan p = true) : mmP (fewP p) = mmP p := by
  funext i h
  unfold mmP LsP
  rw [few_LsP hok]
theorem first_all {p : PlanD} {m a : Nat → Int} (hok : okPlan p = true) (hD : DaR (fewP p) m a) (hE : DaEnd (fewP p) m a) :
    Stb p m ∧ ∀ u, Stb p u → ∀ x, x < p.nH → rHd p x (m x) ≤ rHd p x (u x) := by
  refine ⟨(few_stb hok).1 (hD.stb (few_okT hok) hE), fun u hu x hx => ?_⟩
  have := hD.best (few_okT hok) hE (((few_stb hok).2 hu).unb (few_okT hok)) (x := x) (by rw [(few_n hok).1]; exact hx)
  rw [few_rHd hok hx, few_rHd hok hx] at this
  exact this
theorem last_all {p : PlanD} (hok : okPlan p = true) :
    Stb p (midG (fewP p) (kP (fewP p) - 1)) ∧ ∀ u, Stb p u → ∀ x, x < p.nH → rHd p x (u x) ≤ rHd p x (midG (fewP p) (kP (fewP p) - 1) x) := by
  have hk := kP_pos (few_okT hok)
  refine ⟨(few_stb hok).1 ((midG_spec (few_okT hok)).1 _ (by omega)), fun u hu x hx => ?_⟩
  have := (midG_first (few_okT hok) ((few_stb hok).2 hu) (h := x) (by rw [(few_n hok).1]; exact hx)).2
  rw [few_rHd hok hx, few_rHd hok hx] at this
  exact this
end Go.Proofs.Ytiigcjcolpmafaa

