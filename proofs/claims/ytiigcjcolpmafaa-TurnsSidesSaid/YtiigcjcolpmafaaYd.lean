/- Another list of one hand: nobody else fares worse when a hand is gone; no hand gains by another list. -/
import Derived.Test.YtiigcjcolpmafaaYb
namespace Go.Proofs.Ytiigcjcolpmafaa

/-- The plan in which hand h gives another list. -/
def setH (p : PlanD) (h L : Nat) (f : Nat → Int) : PlanD := { p with LH := fun i => if i = h then L else p.LH i, vH := fun i => if i = h then f else p.vH i }
section
variable {p : PlanD} {h L : Nat} {f : Nat → Int}
theorem setH_ok (hok : okPlan p = true) (hf : RowOk f L p.nS) : okPlan (setH p h L f) = true := by
  obtain ⟨h1, h2, h3, h4⟩ := okPlan_of hok
  refine decide_eq_true ⟨h1, h2, fun i hi => ?_, h4⟩
  show RowOk (if i = h then f else p.vH i) (if i = h then L else p.LH i) p.nS
  by_cases e : i = h
  · rw [if_pos e, if_pos e]
    exact hf
  · rw [if_neg e, if_neg e]
    exact h3 i hi
theorem setH_row (hq : okPlan (setH p h L f) = true) (hh : h < p.nH) : RowOk f L p.nS := by
  have := (okPlan_of hq).2.2.1 h hh
  have this : RowOk (if h = h then f else p.vH h) (if h = h then L else p.LH h) p.nS := this
  rw [if_pos rfl, if_pos rfl] at this
  exact this
theorem setH_v {y : Nat} (e : y ≠ h) : (setH p h L f).vH y = p.vH y := if_neg e
theorem setH_L {y : Nat} (e : y ≠ h) : (setH p h L f).LH y = p.LH y := if_neg e
theorem setH_vh : (setH p h L f).vH h = f := if_pos rfl
theorem setH_Lh : (setH p h L f).LH h = L := if_pos rfl
theorem setH_poss {y : Nat} {s : Int} (e : y ≠ h) : possB (setH p h L f) y s = possB p y s := by
  unfold possB
  rw [setH_v e, setH_L e]
  rfl
theorem setH_rHd {y : Nat} {s : Int} (e : y ≠ h) : rHd (setH p h L f) y s = rHd p y s := by
  unfold rHd
  rw [setH_v e, setH_L e]
theorem setH_possh {s : Int} : possB (setH p h L f) h s = true ↔ 0 ≤ idxI f s L ∧ 0 ≤ idxI (p.vS s.toNat) (h : Int) (p.LS s.toNat) := by
  rw [poss_if2, setH_vh, setH_Lh]
  exact Iff.rfl
theorem setH_rHdh {s : Int} : rHd (setH p h L f) h s = rkI f L s := by
  unfold rHd
  rw [setH_vh, setH_Lh]
end
theorem idxI_cut {f : Nat → Int} {x : Int} {K L : Nat} (hk : K ≤ L) (h0 : 0 ≤ idxI f x L) (hl : idxI f x L < K) : idxI f x K = idxI f x L := by
  rcases idxI_cases f x L with ⟨e, -⟩ | ⟨k, hk2, e, h1, h2⟩
  · omega
  · rw [e] at hl ⊢
    exact idxI_some h2 h1 K (by omega)
theorem idxI_grow {f : Nat → Int} {x : Int} {K L : Nat} (hk : K ≤ L) (h0 : 0 ≤ idxI f x K) : idxI f x L = idxI f x K := by
  rcases idxI_cases f x K with ⟨e, -⟩ | ⟨k, hk2, e, h1, h2⟩
  · omega
  · rw [e]
    exact idxI_some h2 h1 L (by omega)
/-- A hand that takes nothing: nobody else fares worse. -/
theorem more_le {p : PlanD} {h : Nat} {f : Nat → Int} {m a m' a' : Nat → Int} (hok : okPlan p = true) (hq : okPlan (setH p h 0 f) = true) (hD : DaR p m a) (hE : DaEnd p m a) (hD' : DaR (setH p h 0 f) m' a') (hE' : DaEnd (setH p h 0 f) m' a') {x : Nat} (hx : x < p.nH) (hne : x ≠ h) : rHd p x (m' x) ≤ rHd p x (m x) := by
  have hS := hD.stb hok hE
  have hno : ∀ {s : Int}, ¬ 0 ≤ idxI ((setH p h 0 f).vH h) s ((setH p h 0 f).LH h) := fun {s} h1 => by
    rw [setH_vh, setH_Lh] at h1
    have : idxI f s 0 = -1 := rfl
    omega
  have hU : Unb (setH p h 0 f) m := ⟨hS.cap, fun y s z hy hs hz hp hl e => by
    by_cases ey : y = h
    · subst ey
      exact absurd (poss_if2.1 hp).1 hno
    · rw [setH_poss ey] at hp
      rw [setH_rHd ey, setH_rHd ey] at hl
      exact (hS.nob y s hy hs hp hl).2 z hz e, fun y hy hi => by
    by_cases ey : y = h
    · subst ey
      exact absurd hi hno
    · rw [setH_poss ey]
      rw [setH_v ey, setH_L ey] at hi
      exact (hS.unb hok).mat y hy hi⟩
  have := hD'.best hq hE' hU hx
  rw [setH_rHd hne, setH_rHd hne] at this
  exact this
theorem more_none {p : PlanD} {h : Nat} {f : Nat → Int} {m' a' : Nat → Int} (hq : okPlan (setH p h 0 f) = true) (hD' : DaR (setH p h 0 f) m' a') (hE' : DaEnd (setH p h 0 f) m' a') (hh : h < p.nH) : m' h = -1 := by
  rcases (hD'.stb hq hE').mat h hh with e | e
  · exact e
  · have := (setH_possh.1 e).1
    have : idxI f (m' h) 0 = -1 := rfl
    omega
/-- No hand gains by another list. -/
theorem honest {p : PlanD} {h L : Nat} {f : Nat → Int} {m a b c : Nat → Int} (hok : okPlan p = true) (hq : okPlan (setH p h L f) = true) (hh : h < p.nH) (hD : DaR p m a) (hE : DaEnd p m a) (hD' : DaR (setH p h L f) b c) (hE' : DaEnd (setH p h L f) b c) : rHd p h (m h) ≤ rHd p h (b h) := by
  rcases Int.lt_or_le (rHd p h (b h)) (rHd p h (m h)) with hlt | hle
  · exfalso
    have hSb := hD'.stb hq hE'
    have hup : rHd p h (m h) ≤ p.LH h := (rkI_bd _ _ _).2
    have hlist : 0 ≤ idxI (p.vH h) (b h) (p.LH h) := rkI_lt.1 (by unfold rHd at *; omega)
    have hrow := (okPlan_of hok).2.2.1 h hh
    have hrng := RowOk.rng hrow hlist
    obtain ⟨t, ht⟩ : ∃ t : Nat, b h = t := ⟨(b h).toNat, by omega⟩
    have hpq : possB (setH p h L f) h (b h) = true := by
      rcases hSb.mat h hh with e | e
      · omega
      · exact e
    rw [ht] at hlist hlt hpq
    have hvs := (setH_possh.1 hpq).2
    have hpt : possB p h t = true := poss_if2.2 ⟨hlist, hvs⟩
    obtain ⟨jt, hjt⟩ : ∃ j : Nat, rHd p h t = j := ⟨(rHd p h t).toNat, by have := rHd_nn p h t; omega⟩
    have hjl : jt < p.LH h := by have := rHd_poss hpt; omega
    have hjt2 : idxI (p.vH h) t (p.LH h) = jt := by
      have := (rkI_sm2 hlist).1
      unfold rHd at hjt
      omega
    -- the list of t alone
    have hrow1 : RowOk (fun _ => (t : Int)) 1 p.nS := ⟨by omega, fun a ha => by
      obtain rfl : a = 0 := by omega
      exact ⟨by show (0 : Int) ≤ t; omega, by show (t : Int) < p.nS; omega, rfl⟩⟩
    have hok1 := setH_ok (h := h) hok hrow1
    have hi1 : ∀ s : Int, 0 ≤ idxI (fun _ => (t : Int)) s 1 → s = t := fun s hs => by
      rcases idxI_cases (fun _ => (t : Int)) s 1 with ⟨e, -⟩ | ⟨k, -, -, e, -⟩
      · omega
      · exact e.symm
    have hi2 : idxI (fun _ => (t : Int)) t 1 = 0 := by simp [idxI]
    have hSb1 : Stb (setH p h 1 (fun _ => (t : Int))) b := by
      refine ⟨fun x hx => ?_, hSb.cap, fun y s hy hs hp hl => ?_⟩
      · by_cases e : x = h
        · subst e
          rw [ht]
          exact .inr (setH_possh.2 ⟨by rw [hi2]; omega, hvs⟩)
        · have := hSb.mat x hx
          rw [setH_poss e] at this ⊢
          exact this
      · by_cases e : y = h
        · subst e
          rw [setH_rHdh, setH_rHdh, ht] at hl
          have h1 := (rkI_sm2 (f := fun _ => (t : Int)) (L := 1) (x := t) (by rw [hi2]; omega)).1
          have h2 := rkI_bd (fun _ => (t : Int)) 1 (s : Int)
          rw [h1, hi2] at hl
          omega
        · rw [setH_poss e] at hp
          rw [setH_rHd e, setH_rHd e] at hl
          exact hSb.nob y s hy hs (by rw [setH_poss e]; exact hp) (by rw [setH_rHd e, setH_rHd e]; exact hl)
    -- their own list up to t
    have hrow2 : RowOk (p.vH h) (jt + 1) p.nS := ⟨by have := hrow.1; omega, fun a ha => hrow.2 a (by omega)⟩
    have hok2 := setH_ok (h := h) hok hrow2
    obtain ⟨l, al, hDl, hEl⟩ := da_ex hok2
    have hSl := hDl.stb hok2 hEl
    have hcut : ∀ s : Int, 0 ≤ idxI (p.vH h) s (jt + 1) → idxI (p.vH h) s (p.LH h) = idxI (p.vH h) s (jt + 1) := fun s hs => idxI_grow (by omega) hs
    have hcut2 : ∀ s : Int, 0 ≤ idxI (p.vH h) s (p.LH h) → idxI (p.vH h) s (p.LH h) < (jt + 1 : Nat) → idxI (p.vH h) s (jt + 1) = idxI (p.vH h) s (p.LH h) := fun s h0 hs => idxI_cut (by omega) h0 hs
    have hlh : l h ≠ -1 := fun e => by
      have hSl1 : Stb (setH p h 1 (fun _ => (t : Int))) l := by
        refine ⟨fun x hx => ?_, hSl.cap, fun y s hy hs hp hl => ?_⟩
        · by_cases ex : x = h
          · subst ex
            exact .inl e
          · have := hSl.mat x hx
            rw [setH_poss ex] at this ⊢
            exact this
        · by_cases ey : y = h
          · subst ey
            have hst := hi1 s (setH_possh.1 hp).1
            have hst : s = t := by omega
            subst hst
            have e1 := hcut2 s hlist (by omega)
            refine hSl.nob y s hy hs (setH_possh.2 ⟨by rw [e1]; exact hlist, hvs⟩) ?_
            rw [setH_rHdh, setH_rHdh, e, (rkI_sm2 (by rw [e1]; exact hlist)).1, e1, hjt2]
            have h3 : rkI (p.vH y) (jt + 1) (-1) = (jt + 1 : Nat) := by
              refine rkI_nn2 ?_
              rcases Int.lt_or_le (idxI (p.vH y) (-1) (jt + 1)) 0 with h4 | h4
              · exact h4
              · have := RowOk.rng hrow2 h4
                omega
            rw [h3]
            omega
          · rw [setH_poss ey] at hp
            rw [setH_rHd ey, setH_rHd ey] at hl
            exact hSl.nob y s hy hs (by rw [setH_poss ey]; exact hp) (by rw [setH_rHd ey, setH_rHd ey]; exact hl)
      have := stb_none hok1 hSl1 hSb1 hh e
      omega
    have hpl : possB (setH p h (jt + 1) (p.vH h)) h (l h) = true := by
      rcases hSl.mat h hh with e | e
      · exact absurd e hlh
      · exact e
    obtain ⟨g1, g2⟩ := setH_possh.1 hpl
    have g3 := hcut _ g1
    have g4 := idxI_bd (p.vH h) (l h) (jt + 1)
    have g5 : rHd p h (l h) ≤ jt := by
      unfold rHd
      rw [(rkI_sm2 (by rw [g3]; exact g1)).1, g3]
      omega
    have hSp : Stb p l := by
      refine ⟨fun x hx => ?_, hSl.cap, fun y s hy hs hp hl => ?_⟩
      · by_cases ex : x = h
        · subst ex
          exact .inr (poss_if2.2 ⟨by rw [g3]; exact g1, g2⟩)
        · have := hSl.mat x hx
          rw [setH_poss ex] at this
          exact this
      · by_cases ey : y = h
        · subst ey
          obtain ⟨k1, k2⟩ := poss_if2.1 hp
          have k3 : rHd p y s = idxI (p.vH y) s (p.LH y) := (rkI_sm2 k1).1
          have k4 := hcut2 s k1 (by omega)
          refine hSl.nob y s hy hs (setH_possh.2 ⟨by rw [k4]; exact k1, k2⟩) ?_
          rw [setH_rHdh, setH_rHdh, (rkI_sm2 (by rw [k4]; exact k1)).1, k4, (rkI_sm2 g1).1, ← g3]
          unfold rHd at hl
          rw [(rkI_sm2 k1).1, (rkI_sm2 (by rw [g3]; exact g1)).1] at hl
          exact hl
        · exact hSl.nob y s hy hs (by rw [setH_poss ey]; exact hp) (by rw [setH_rHd ey, setH_rHd ey]; exact hl)
    have := hD.best hok hE (hSp.unb hok) hh
    omega
  · exact hle
/-- The place of a number in a list, 99: it is not there. -/
def atF (f : Nat → Int) (L : Nat) (x : Int) : Int := if 0 ≤ idxI f x L then idxI f x L else 99
theorem atF_le {f : Nat → Int} {L : Nat} (hL : L ≤ 9) {x y : Int} (h : rkI f L x ≤ rkI f L y) : atF f L x ≤ atF f L y := by
  unfold atF
  have h1 := idxI_bd f x L
  have h2 := idxI_bd f y L
  by_cases e : 0 ≤ idxI f y L
  · rw [if_pos e]
    have h3 := rkI_sm2 e
    rw [if_pos (rkI_lt.1 (by omega))]
    rw [(rkI_sm2 (rkI_lt.1 (by omega))).1] at h
    omega
  · rw [if_neg e]
    split <;> omega
theorem atF_bd (f : Nat → Int) (L : Nat) (hL : L ≤ 9) (x : Int) : 0 ≤ atF f L x ∧ atF f L x ≤ 99 := by
  have := idxI_bd f x L
  unfold atF
  split <;> omega
end Go.Proofs.Ytiigcjcolpmafaa
