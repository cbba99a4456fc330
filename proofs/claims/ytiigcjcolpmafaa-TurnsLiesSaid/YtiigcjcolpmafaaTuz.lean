/- A part of the proof: Tuz. -/
import Derived.Test.YtiigcjcolpmafaaTtz
namespace Go.Proofs.Ytiigcjcolpmafaa
open Go.RowKit

/-- Hand h would rather have a than b. -/
def likB (p : PlanD) (h : Nat) (a b : Int) : Bool := !(decide (a = -1) || decide (a = b)) && (decide (b = -1) || decide (idxI (p.vH h) a (p.LH h) < idxI (p.vH h) b (p.LH h)))

set_option maxHeartbeats 2000000 in
set_option maxRecDepth 1000000 in
theorem likes_any (AH AS AP : Option Addr) (cH cS cP : Nat) (p : PlanD) (h : Nat) (a b : Int) (w : World) (hH : Rows2 w AH p.nH p.LH p.vH) (hok : okPlan p = true) (hh : h < p.nH) :
    Lr 76 #[.agg #[.slice AH p.nH cH, .slice AS p.nS cS, .slice AP p.nP cP], .int .i64 h, .int .i64 a, .int .i64 b] w (.bool (likB p h a b)) := by
  obtain ⟨⟨h1, h2, h3, h4, -⟩, -, h7, h8⟩ := okPlan_of hok
  obtain ⟨bH, oH, RH, kH, rfl, hcH, hIH⟩ := hH.at hh
  have Hb0 := Lib.hid (below_box w (.cells #[.slice (some ⟨bH, oH, none⟩) p.nH cH, .slice AS p.nS cS, .slice AP p.nP cP] 25))
  have hcH' := old_cell hcH Hb0.out
  have HIH := Lib.hid (hIH.keep Hb0.out)
  have hLH := (h7 h hh).1
  have hL9 : p.LH h ≤ 9 := by omega
  have HDef : Hid (likB p h a b = (!(decide (a = -1) || decide (a = b)) && (decide (b = -1) || decide (idxI (p.vH h) a (p.LH h) < idxI (p.vH h) b (p.LH h))))) := Lib.hid rfl
  clear h7 h8 hok hH hIH hcH
  show Calls _ _ _ _ _
  by_cases e1 : a = -1
  · have HE : Hid (likB p h a b = false) := Lib.hid (by rw [HDef.out, decide_eq_true e1]; rfl)
    have eB := beq_t e1
    clear e1
    go_enter Try.func76, Try.ntmps76
    go_wp2
    go_ret
    exact ⟨ret_bool HE.out.symm, Hb0.out⟩
  · have eB := beq_f e1
    by_cases e2 : a = b
    · have HE : Hid (likB p h a b = false) := Lib.hid (by rw [HDef.out, decide_eq_true e2]; simp)
      have eB2 := beq_t e2
      clear e1 e2
      go_enter Try.func76, Try.ntmps76
      go_wp2
      go_ret
      exact ⟨ret_bool HE.out.symm, Hb0.out⟩
    · have eB2 := beq_f e2
      have HDef2 : Hid (likB p h a b = (decide (b = -1) || decide (idxI (p.vH h) a (p.LH h) < idxI (p.vH h) b (p.LH h)))) := Lib.hid (by rw [HDef.out, decide_eq_false e1, decide_eq_false e2]; rfl)
      clear e1 e2
      by_cases e3 : b = -1
      · have HE : Hid (likB p h a b = true) := Lib.hid (by rw [HDef2.out, decide_eq_true e3]; rfl)
        have eB3 := beq_t e3
        clear e3
        go_enter Try.func76, Try.ntmps76
        go_wp2_with fail
        go_quiet (fail)
        go_wp2
        go_ret
        exact ⟨ret_bool HE.out.symm, Hb0.out.trans (((Dn.refl _).drewN _).below _)⟩
      · have HE : Hid (likB p h a b = decide (idxI (p.vH h) a (p.LH h) < idxI (p.vH h) b (p.LH h))) := Lib.hid (by rw [HDef2.out, decide_eq_false e3]; rfl)
        have eB3 := beq_f e3
        have HR1 : ∀ q, Hid (Ro 86 #[.slice RH (p.LH h) kH, .int .i64 a] ((w.alloc (.cells #[.slice (some ⟨bH, oH, none⟩) p.nH cH, .slice AS p.nS cS, .slice AP p.nP cP] 25)).drewN q) (.int .i64 (idxI (p.vH h) a (p.LH h)))) := fun q => Lib.hid (Ro.same (rRank_any RH _ kH (p.vH h) a _ (HIH.out.dn ⟨q, rfl⟩) (by omega)))
        have HR2 : ∀ q, Hid (Ro 86 #[.slice RH (p.LH h) kH, .int .i64 b] ((w.alloc (.cells #[.slice (some ⟨bH, oH, none⟩) p.nH cH, .slice AS p.nS cS, .slice AP p.nP cP] 25)).drewN q) (.int .i64 (idxI (p.vH h) b (p.LH h)))) := fun q => Lib.hid (Ro.same (rRank_any RH _ kH (p.vH h) b _ (HIH.out.dn ⟨q, rfl⟩) (by omega)))
        generalize idxI (p.vH h) a (p.LH h) = i1 at *
        generalize idxI (p.vH h) b (p.LH h) = i2 at *
        clear e3
        go_enter Try.func76, Try.ntmps76
        go_wp2_with fail
        go_quiet (first | (go_at_call_of 86 a; exact Ro.quiet (HR1 _).out) | (go_at_call_of 86 b; exact Ro.quiet (HR2 _).out))
        go_wp2
        go_ret
        exact ⟨ret_bool HE.out.symm, Hb0.out.trans (((Dn.refl _).drewN _).below _)⟩

/-- What a hand of a matching has: none, or what is listed. -/
def Has (p : PlanD) (m : Nat → Int) : Prop := ∀ h, h < p.nH → m h = -1 ∨ 0 ≤ idxI (p.vH h) (m h) (p.LH h)
theorem okMat_has {p : PlanD} {n : Nat} {m : Nat → Int} (h : okMat p n m = true) : Has p m := by
  unfold okMat at h
  rw [Bool.and_eq_true, Bool.and_eq_true] at h
  intro x hx
  have h1 := (allB_iff.1 h.2) x hx
  unfold matP at h1
  by_cases e : m x = -1
  · exact .inl e
  · rw [decide_eq_false e, Bool.false_or, Bool.and_eq_true] at h1
    have h2 := h1.1
    unfold possB at h2
    rw [Bool.and_eq_true] at h2
    exact .inr (of_decide_eq_true h2.1)
theorem rkI_listed {f : Nat → Int} {L : Nat} {x : Int} (h : 0 ≤ idxI f x L) : rkI f L x = idxI f x L := by
  unfold rkI
  rw [if_neg (by omega)]
/-- None is on no list. -/
theorem none_not {p : PlanD} {h : Nat} (hok : okPlan p = true) (hh : h < p.nH) : rkI (p.vH h) (p.LH h) (-1) = (p.LH h : Int) := by
  obtain ⟨-, -, h7, -⟩ := okPlan_of hok
  unfold rkI
  rw [if_pos]
  have hb := idxI_bd (p.vH h) (-1) (p.LH h)
  rcases Int.lt_or_le (idxI (p.vH h) (-1) (p.LH h)) 0 with hl | hl
  · omega
  · have := (h7 h hh).rng hl
    omega
/-- For what a matching may give, liking more is having a lesser rank. -/
theorem lik_rk {p : PlanD} {h : Nat} {a b : Int} (hok : okPlan p = true) (hh : h < p.nH) (ha : a = -1 ∨ 0 ≤ idxI (p.vH h) a (p.LH h)) (hb : b = -1 ∨ 0 ≤ idxI (p.vH h) b (p.LH h)) :
    likB p h a b = decide (rkI (p.vH h) (p.LH h) a < rkI (p.vH h) (p.LH h) b) := by
  have hn := none_not hok hh
  unfold likB
  by_cases e1 : a = -1
  · subst e1
    have := rkI_bd (p.vH h) (p.LH h) b
    rw [hn, decide_eq_false (show ¬ (p.LH h : Int) < rkI (p.vH h) (p.LH h) b by omega)]
    simp
  · rcases ha with e | ha
    · exact absurd e e1
    · have ra := rkI_listed ha
      have ba := idxI_bd (p.vH h) a (p.LH h)
      by_cases e2 : b = -1
      · subst e2
        rw [hn, ra, decide_eq_true (show idxI (p.vH h) a (p.LH h) < (p.LH h : Int) by omega)]
        simp [e1]
      · rcases hb with e | hb
        · exact absurd e e2
        · have rb := rkI_listed hb
          rw [ra, rb, decide_eq_false e1, decide_eq_false e2]
          by_cases e3 : a = b
          · subst e3
            simp
          · rw [decide_eq_false e3]
            rfl
end Go.Proofs.Ytiigcjcolpmafaa

