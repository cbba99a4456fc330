/- Asking in turn ends, in the stable matching that is best for the hands. -/
import Derived.Test.YtiigcjcolpmafaaYa
import Derived.Test.YtiigcjcolpmafaaFg
namespace Go.Proofs.Ytiigcjcolpmafaa

theorem idxI_self {f : Nat → Int} {L k j : Nat} (h : RowOk f L k) (hj : j < L) : idxI f (f j) L = j := by
  refine idxI_some (fun i hi => ?_) rfl L hj
  have h1 := (h.2 j hj).2.2
  rcases idxI_cases f (f j) j with ⟨-, h2⟩ | ⟨k2, hk2, e, -⟩
  · exact h2 i hi
  · omega
theorem rHd_self {p : PlanD} {x j : Nat} (hok : okPlan p = true) (hx : x < p.nH) (hj : j < p.LH x) : rHd p x (p.vH x j) = j := by
  have h1 := idxI_self ((okPlan_of hok).2.2.1 x hx) hj
  unfold rHd
  rw [(rkI_sm2 (by omega)).1, h1]
theorem rHd_nn (p : PlanD) (x : Nat) (s : Int) : 0 ≤ rHd p x s := (rkI_bd _ _ _).1
theorem rHd_at {p : PlanD} {x j : Nat} {s : Int} (hs : 0 ≤ idxI (p.vH x) s (p.LH x)) (e : rHd p x s = j) : p.vH x j = s := by
  rcases idxI_cases (p.vH x) s (p.LH x) with ⟨e1, -⟩ | ⟨k, hk, e1, e2, -⟩
  · omega
  · unfold rHd at e
    rw [(rkI_sm2 hs).1] at e
    have : k = j := by omega
    rw [← this, e2]
theorem cnt_del {m : Nat → Int} {x n : Nat} {s : Int} (hx : x < n) (e : m x = s) (hs : s ≠ -1) : cnt (upd m x (-1)) s n + 1 = cnt m s n := by
  have h1 := cnt_upd (m := upd m x (-1)) (s := s) (t := s) (n := n) hx (by rw [upd_at]; omega)
  rw [if_pos rfl] at h1
  rw [← h1]
  refine cnt_congr (fun y _ => ?_)
  unfold upd
  split
  · rename_i e2
    rw [e2, e]
  · rfl
theorem cnt_del_ne {m : Nat → Int} {x n : Nat} {t : Int} (hx : x < n) (e : m x ≠ t) (ht : t ≠ -1) : cnt (upd m x (-1)) t n = cnt m t n := by
  have h1 := cnt_upd (m := m) (s := -1) (t := t) (n := n) hx e
  rw [if_neg (by omega)] at h1
  omega

structure DaI (p : PlanD) (m a : Nat → Int) : Prop where
  ask : ∀ x, x < p.nH → 0 ≤ a x ∧ a x ≤ p.LH x
  has : ∀ x, x < p.nH → m x = -1 ∨ (0 < a x ∧ rHd p x (m x) = a x - 1 ∧ possB p x (m x) = true)
  cap : ∀ s : Nat, s < p.nS → (cnt m s p.nH : Int) ≤ p.pl s
  ref : ∀ x s : Nat, x < p.nH → s < p.nS → possB p x s = true → m x ≠ s → rHd p x s < a x → (cnt m s p.nH : Int) = p.pl s ∧ ∀ y, y < p.nH → m y = s → rSd p s y < rSd p s x

theorem DaR.daI {p : PlanD} {m a : Nat → Int} (hok : okPlan p = true) (h : DaR p m a) : DaI p m a := by
  have hpl := (okPlan_of hok).2.1
  have hnP := (okPlan_of hok).1.2.2.2.2
  induction h with
  | start =>
    refine ⟨fun x _ => ⟨Int.le_refl _, by omega⟩, fun _ _ => .inl rfl, fun s hs => ?_, fun x s hx hs hp hm hl => ?_⟩
    · rcases Nat.eq_zero_or_pos (cnt (fun _ => -1) (s : Int) p.nH) with e | e
      · have := hpl s (by omega)
        omega
      · obtain ⟨x, -, e2⟩ := cnt_some e
        have e2 : (-1 : Int) = s := e2
        omega
    · have := rHd_nn p x s
      omega
  | @skip m a h h1 h2 h3 h4 h5 ih =>
    have hah := (ih.ask h h2).1
    obtain ⟨j, hj⟩ : ∃ j : Nat, a h = j := ⟨(a h).toNat, by omega⟩
    refine ⟨fun x hx => ?_, fun x hx => ?_, ih.cap, fun x s hx hs hp hm hl => ?_⟩
    · by_cases e : x = h
      · subst e
        rw [upd_at]
        omega
      · rw [upd_ne a _ e]
        exact ih.ask x hx
    · by_cases e : x = h
      · exact .inl (by rw [e]; exact h3)
      · rw [upd_ne a _ e]
        exact ih.has x hx
    · by_cases e : x = h
      · subst e
        rw [upd_at] at hl
        rcases Int.lt_or_le (rHd p x s) (a x) with h6 | h6
        · exact ih.ref x s hx hs hp hm h6
        · have e2 := rHd_at (j := j) (poss_if2.1 hp).1 (by omega)
          rw [hj, Int.toNat_natCast, e2, hp] at h5
          cases h5
      · rw [upd_ne a _ e] at hl
        exact ih.ref x s hx hs hp hm hl
  | @take m a h s h1 h2 h3 h4 h5 h6 h7 ih =>
    have hah := (ih.ask h h2).1
    have hsr := poss_rg2 hok h2 h6
    obtain ⟨j, hj⟩ : ∃ j : Nat, a h = j := ⟨(a h).toNat, by omega⟩
    rw [hj, Int.toNat_natCast] at h5
    have hrk : rHd p h s = j := by
      rw [← h5]
      exact rHd_self hok h2 (by omega)
    have hc : ∀ t : Nat, cnt (upd m h (s : Int)) (t : Int) p.nH = cnt m t p.nH + (if (s : Int) = t then 1 else 0) := fun t => cnt_upd h2 (by rw [h3]; omega)
    refine ⟨fun x hx => ?_, fun x hx => ?_, fun t ht => ?_, fun x t hx ht hp hm hl => ?_⟩
    · by_cases e : x = h
      · subst e
        rw [upd_at]
        omega
      · rw [upd_ne a _ e]
        exact ih.ask x hx
    · by_cases e : x = h
      · subst e
        rw [upd_at, upd_at]
        exact .inr ⟨by omega, by omega, h6⟩
      · rw [upd_ne a _ e, upd_ne m _ e]
        exact ih.has x hx
    · by_cases e : t = s
      · subst e
        exact h7
      · rw [hc t, if_neg (by omega)]
        exact ih.cap t ht
    · by_cases e : x = h
      · subst e
        rw [upd_at] at hm hl
        have hts : t ≠ s := fun e => hm (by rw [e])
        have hlt : rHd p x t < a x := by
          rcases Int.lt_or_le (rHd p x t) (a x) with h8 | h8
          · exact h8
          · have e2 := rHd_at (j := j) (poss_if2.1 hp).1 (by omega)
            rw [h5] at e2
            omega
        obtain ⟨g1, g2⟩ := ih.ref x t hx ht hp (by omega) hlt
        refine ⟨by rw [hc t, if_neg (by omega)]; exact g1, fun y hy e2 => ?_⟩
        by_cases e3 : y = x
        · subst e3
          rw [upd_at] at e2
          omega
        · rw [upd_ne m _ e3] at e2
          exact g2 y hy e2
      · rw [upd_ne m _ e] at hm
        rw [upd_ne a _ e] at hl
        obtain ⟨g1, g2⟩ := ih.ref x t hx ht hp hm hl
        by_cases ets : t = s
        · subst ets
          have := hc t
          rw [if_pos rfl] at this
          omega
        · refine ⟨by rw [hc t, if_neg (by omega)]; exact g1, fun y hy e2 => ?_⟩
          by_cases e3 : y = h
          · subst e3
            rw [upd_at] at e2
            omega
          · rw [upd_ne m _ e3] at e2
            exact g2 y hy e2
  | @swap m a h s z h1 h2 h3 h4 h5 h6 h7 h8 h9 h10 ih =>
    have hah := (ih.ask h h2).1
    have hsr := poss_rg2 hok h2 h6
    obtain ⟨j, hj⟩ : ∃ j : Nat, a h = j := ⟨(a h).toNat, by omega⟩
    rw [hj, Int.toNat_natCast] at h5
    have hrk : rHd p h s = j := by
      rw [← h5]
      exact rHd_self hok h2 (by omega)
    have hc : ∀ t : Nat, cnt (upd m h (s : Int)) (t : Int) p.nH = cnt m t p.nH + (if (s : Int) = t then 1 else 0) := fun t => cnt_upd h2 (by rw [h3]; omega)
    have hcs := hc s
    rw [if_pos rfl] at hcs
    have hd := cnt_del (m := upd m h (s : Int)) h8 h9 (by omega)
    have hdn : ∀ t : Nat, t ≠ s → cnt (upd (upd m h (s : Int)) z (-1)) (t : Int) p.nH = cnt m t p.nH := fun t ht => by
      rw [cnt_del_ne h8 (by rw [h9]; omega) (by omega), hc t, if_neg (by omega)]
      rfl
    have hcap := ih.cap s (by omega)
    have hposs : ∀ y, y < p.nH → upd m h (s : Int) y = s → possB p y s = true := fun y hy e => by
      by_cases e2 : y = h
      · rw [e2]; exact h6
      · rw [upd_ne m _ e2] at e
        rcases ih.has y hy with e3 | ⟨-, -, e3⟩
        · omega
        · rw [e] at e3
          exact e3
    have hm' : ∀ y, upd (upd m h (s : Int)) z (-1) y = if y = z then -1 else upd m h (s : Int) y := fun y => rfl
    refine ⟨fun x hx => ?_, fun x hx => ?_, fun t ht => ?_, fun x t hx ht hp hm hl => ?_⟩
    · by_cases e : x = h
      · subst e
        rw [upd_at]
        omega
      · rw [upd_ne a _ e]
        exact ih.ask x hx
    · rw [hm' x]
      by_cases ez : x = z
      · rw [if_pos ez]
        exact .inl rfl
      · rw [if_neg ez]
        by_cases e : x = h
        · subst e
          rw [upd_at, upd_at]
          exact .inr ⟨by omega, by omega, h6⟩
        · rw [upd_ne a _ e, upd_ne m _ e]
          exact ih.has x hx
    · by_cases e : t = s
      · subst e
        omega
      · rw [hdn t e]
        exact ih.cap t ht
    · rw [hm' x] at hm
      by_cases ets : t = s
      · subst ets
        refine ⟨by omega, fun y hy e => ?_⟩
        rw [hm' y] at e
        by_cases eyz : y = z
        · rw [if_pos eyz] at e
          omega
        rw [if_neg eyz] at e
        by_cases exz : x = z
        · subst exz
          have g1 := h10 y hy e
          have g2 : rSd p t y ≠ rSd p t x := fun e2 => eyz (rSd_inj (hposs y hy e) (hposs x hx h9) e2)
          have g1 : rSd p t y ≤ rSd p t x := g1
          omega
        · rw [if_neg exz] at hm
          have exh : x ≠ h := fun e2 => hm (by rw [e2, upd_at])
          rw [upd_ne m _ exh] at hm
          rw [upd_ne a _ exh] at hl
          obtain ⟨-, g2⟩ := ih.ref x t hx ht hp hm hl
          by_cases eyh : y = h
          · subst eyh
            have g3 := g2 z h8 (by rw [upd_ne m _ (fun e => eyz e.symm)] at h9; exact h9)
            have g4 : rSd p t y ≤ rSd p t z := h10 y hy e
            omega
          · rw [upd_ne m _ eyh] at e
            exact g2 y hy e
      · rw [hdn t ets]
        have hb : ∀ y, y < p.nH → upd (upd m h (s : Int)) z (-1) y = (t : Int) → m y = t := fun y hy e => by
          rw [hm' y] at e
          by_cases eyz : y = z
          · rw [if_pos eyz] at e
            omega
          · rw [if_neg eyz] at e
            by_cases eyh : y = h
            · subst eyh
              rw [upd_at] at e
              omega
            · rw [upd_ne m _ eyh] at e
              exact e
        have key : m x ≠ t ∧ rHd p x t < a x := by
          by_cases exh : x = h
          · subst exh
            rw [upd_at] at hl
            refine ⟨by omega, ?_⟩
            rcases Int.lt_or_le (rHd p x t) (a x) with h11 | h11
            · exact h11
            · have e2 := rHd_at (j := j) (poss_if2.1 hp).1 (by omega)
              rw [h5] at e2
              omega
          · rw [upd_ne a _ exh] at hl
            refine ⟨?_, hl⟩
            by_cases exz : x = z
            · subst exz
              rw [upd_ne m _ exh] at h9
              omega
            · rw [if_neg exz, upd_ne m _ exh] at hm
              exact hm
        obtain ⟨g1, g2⟩ := ih.ref x t hx ht hp key.1 key.2
        exact ⟨g1, fun y hy e => g2 y hy (hb y hy e)⟩

/-- What no better offer blocks. -/
structure Unb (p : PlanD) (u : Nat → Int) : Prop where
  cap : ∀ s : Nat, s < p.nS → (cnt u s p.nH : Int) ≤ p.pl s
  nob : ∀ y s x : Nat, y < p.nH → s < p.nS → x < p.nH → possB p y s = true → rHd p y s < rHd p y (u y) → u x = s → rSd p s x < rSd p s y
  mat : ∀ y, y < p.nH → 0 ≤ idxI (p.vH y) (u y) (p.LH y) → possB p y (u y) = true
theorem Stb.unb {p : PlanD} {u : Nat → Int} (hok : okPlan p = true) (h : Stb p u) : Unb p u :=
  ⟨h.cap, fun y s x hy hs hx hp hl e => (h.nob y s hy hs hp hl).2 x hx e, fun y hy hi => by
    rcases h.mat y hy with e | e
    · rw [e] at hi
      have := rHd_neg hok hy
      have := rkI_lt.2 hi
      unfold rHd at *
      omega
    · exact e⟩
/-- Nobody is refused by what they have in u. -/
theorem DaR.opt {p : PlanD} {m a u : Nat → Int} (hok : okPlan p = true) (h : DaR p m a) (hu : Unb p u) : ∀ x s : Nat, x < p.nH → u x = s → possB p x s = true → rHd p x s < a x → m x = s := by
  induction h with
  | start =>
    intro x s hx _ _ hl
    have hl : rHd p x s < 0 := hl
    have := rHd_nn p x s
    omega
  | @skip m a h h1 h2 h3 h4 h5 ih =>
    intro x s hx hux hp hl
    have hah := ((h1.daI hok).ask h h2).1
    obtain ⟨j, hj⟩ : ∃ j : Nat, a h = j := ⟨(a h).toNat, by omega⟩
    by_cases e : x = h
    · subst e
      rw [upd_at] at hl
      rcases Int.lt_or_le (rHd p x s) (a x) with h6 | h6
      · exact ih x s hx hux hp h6
      · have e2 := rHd_at (j := j) (poss_if2.1 hp).1 (by omega)
        rw [hj, Int.toNat_natCast, e2, hp] at h5
        cases h5
    · rw [upd_ne a _ e] at hl
      exact ih x s hx hux hp hl
  | @take m a h s h1 h2 h3 h4 h5 h6 h7 ih =>
    intro x t hx hux hp hl
    have hah := ((h1.daI hok).ask h h2).1
    obtain ⟨j, hj⟩ : ∃ j : Nat, a h = j := ⟨(a h).toNat, by omega⟩
    rw [hj, Int.toNat_natCast] at h5
    by_cases e : x = h
    · subst e
      rw [upd_at] at hl ⊢
      rcases Int.lt_or_le (rHd p x t) (a x) with h8 | h8
      · have := ih x t hx hux hp h8
        omega
      · have e2 := rHd_at (j := j) (poss_if2.1 hp).1 (by omega)
        rw [← h5, e2]
    · rw [upd_ne a _ e] at hl
      rw [upd_ne m _ e]
      exact ih x t hx hux hp hl
  | @swap m a h s z h1 h2 h3 h4 h5 h6 h7 h8 h9 h10 ih =>
    have hI := h1.daI hok
    have hsr := poss_rg2 hok h2 h6
    have hah := (hI.ask h h2).1
    obtain ⟨j, hj⟩ : ∃ j : Nat, a h = j := ⟨(a h).toNat, by omega⟩
    rw [hj, Int.toNat_natCast] at h5
    have hrk : rHd p h s = j := by
      rw [← h5]
      exact rHd_self hok h2 (by omega)
    have key : ∀ x t : Nat, x < p.nH → u x = t → possB p x t = true → rHd p x t < upd a h (a h + 1) x → upd m h (s : Int) x = t := by
      intro x t hx hux hp hl
      by_cases e : x = h
      · subst e
        rw [upd_at] at hl ⊢
        rcases Int.lt_or_le (rHd p x t) (a x) with h11 | h11
        · have := ih x t hx hux hp h11
          omega
        · have e2 := rHd_at (j := j) (poss_if2.1 hp).1 (by omega)
          rw [← h5, e2]
      · rw [upd_ne a _ e] at hl
        rw [upd_ne m _ e]
        exact ih x t hx hux hp hl
    intro x t hx hux hp hl
    have hk := key x t hx hux hp hl
    by_cases exz : x = z
    · exfalso
      subst exz
      have hts : t = s := by omega
      subst hts
      obtain ⟨y, hy, hmy, huy⟩ : ∃ y, y < p.nH ∧ upd m h (t : Int) y = t ∧ u y ≠ t := by
        refine Classical.byContradiction fun hno => ?_
        have g1 := cnt_imp (a := upd m h (t : Int)) (b := u) (s := t) (t := t) p.nH (fun y hy e => Classical.byContradiction fun hne => hno ⟨y, hy, e, hne⟩)
        have g2 := hu.cap t (by omega)
        omega
      have g1 : rSd p t y ≤ rSd p t x := h10 y hy hmy
      have hpy : possB p y t = true ∧ rHd p y t < upd a h (a h + 1) y ∧ ∀ v : Nat, u y = v → rHd p y v < rHd p y t → possB p y v = true → False := by
        by_cases e2 : y = h
        · subst e2
          refine ⟨h6, by rw [upd_at]; omega, fun v hv hlt hpv => ?_⟩
          have := ih y v hy hv hpv (by omega)
          omega
        · rw [upd_ne m _ e2] at hmy
          rcases hI.has y hy with e3 | ⟨e3, e4, e5⟩
          · omega
          · rw [hmy] at e4 e5
            refine ⟨e5, by rw [upd_ne a _ e2]; omega, fun v hv hlt hpv => ?_⟩
            have := ih y v hy hv hpv (by omega)
            have : (v : Int) = t := by omega
            rw [this] at hlt
            omega
      obtain ⟨g2, -, g4⟩ := hpy
      have g5 : rHd p y t < rHd p y (u y) := by
        rcases Int.lt_or_le (rHd p y t) (rHd p y (u y)) with g6 | g6
        · exact g6
        · exfalso
          have g7 : 0 ≤ idxI (p.vH y) (u y) (p.LH y) := rkI_lt.1 (by
            have := rHd_poss g2
            unfold rHd at *
            omega)
          have g8 := hu.mat y hy g7
          have g9 := poss_rg2 hok hy g8
          obtain ⟨v, hv⟩ : ∃ v : Nat, u y = v := ⟨(u y).toNat, by omega⟩
          rw [hv] at g6 g8
          refine g4 v hv ?_ g8
          have : rHd p y v ≠ rHd p y t := fun e => huy (by rw [hv]; exact rHd_inj g8 g2 e)
          omega
      have := hu.nob y t x hy (by omega) hx g2 g5 hux
      omega
    · rw [upd_ne (upd m h (s : Int)) _ exz]
      exact hk
theorem DaR.best {p : PlanD} {m a u : Nat → Int} (hok : okPlan p = true) (h : DaR p m a) (he : DaEnd p m a) (hu : Unb p u) {x : Nat} (hx : x < p.nH) : rHd p x (m x) ≤ rHd p x (u x) := by
  rcases Int.lt_or_le (rHd p x (u x)) (rHd p x (m x)) with g | g
  · exfalso
    have g0 : rHd p x (m x) ≤ p.LH x := (rkI_bd _ _ _).2
    have g1 : 0 ≤ idxI (p.vH x) (u x) (p.LH x) := rkI_lt.1 (by unfold rHd at *; omega)
    have g2 := hu.mat x hx g1
    have g3 := poss_rg2 hok hx g2
    obtain ⟨s, hs⟩ : ∃ s : Nat, u x = s := ⟨(u x).toNat, by omega⟩
    rw [hs] at g g2
    have hI := h.daI hok
    have g4 : rHd p x s < a x := by
      rcases hI.has x hx with e | ⟨e1, e2, -⟩
      · have h1 := he x hx
        unfold wtP at h1
        rw [decide_eq_true e, Bool.true_and, decide_eq_false_iff_not] at h1
        have := rHd_poss g2
        omega
      · omega
    rw [h.opt hok hu x s hx hs g2 g4] at g
    omega
  · exact g
theorem DaR.stb {p : PlanD} {m a : Nat → Int} (hok : okPlan p = true) (h : DaR p m a) (he : DaEnd p m a) : Stb p m := by
  have hI := h.daI hok
  refine ⟨fun x hx => (hI.has x hx).imp id (fun h => h.2.2), hI.cap, fun x s hx hs hp hl => ?_⟩
  have hne : m x ≠ s := fun e => by
    rw [e] at hl
    omega
  refine hI.ref x s hx hs hp hne ?_
  rcases hI.has x hx with e | ⟨e1, e2, -⟩
  · have h1 := he x hx
    unfold wtP at h1
    rw [decide_eq_true e, Bool.true_and, decide_eq_false_iff_not] at h1
    have := rHd_poss hp
    omega
  · omega

/-- How much is left to ask. -/
def msr (p : PlanD) (a : Nat → Int) : Nat := sumN (fun x => p.LH x - (a x).toNat) p.nH
theorem msr_upd {p : PlanD} {a : Nat → Int} {h : Nat} (hh : h < p.nH) (h0 : 0 ≤ a h) (hl : a h < p.LH h) : msr p (upd a h (a h + 1)) < msr p a := by
  unfold msr
  have : ∀ n, h < n → sumN (fun x => p.LH x - (upd a h (a h + 1) x).toNat) n + 1 = sumN (fun x => p.LH x - (a x).toNat) n := by
    intro n
    induction n with
    | zero => intro h; omega
    | succ n ih =>
      intro hn
      simp only [sumN]
      by_cases e : h = n
      · subst e
        rw [sumN_congr (g := fun x => p.LH x - (a x).toNat) h (fun s hs => by rw [upd_ne a _ (by omega)]), upd_at]
        omega
      · have := ih (by omega)
        rw [upd_ne a _ (fun e2 => e e2.symm)]
        omega
  have := this p.nH hh
  omega
theorem da_step {p : PlanD} {m a : Nat → Int} (hok : okPlan p = true) (h : DaR p m a) (hn : ¬ DaEnd p m a) : ∃ m' a', DaR p m' a' ∧ msr p a' < msr p a := by
  obtain ⟨x, hx, hw⟩ : ∃ x, x < p.nH ∧ wtP p m a x = true := by
    refine Classical.byContradiction fun hno => hn (fun x hx => ?_)
    cases e : wtP p m a x with
    | false => rfl
    | true => exact absurd ⟨x, hx, e⟩ hno
  unfold wtP at hw
  rw [Bool.and_eq_true_iff, decide_eq_true_iff, decide_eq_true_iff] at hw
  have hI := h.daI hok
  have h0 := (hI.ask x hx).1
  have hm := msr_upd hx h0 hw.2
  cases hp : possB p x (p.vH x (a x).toNat) with
  | false => exact ⟨_, _, DaR.skip h hx hw.1 hw.2 hp, hm⟩
  | true =>
    have hr := poss_rg2 hok hx hp
    obtain ⟨s, hs⟩ : ∃ s : Nat, p.vH x (a x).toNat = s := ⟨(p.vH x (a x).toNat).toNat, by omega⟩
    rw [hs] at hp
    rcases Int.lt_or_le (p.pl s) (cnt (upd m x (s : Int)) (s : Int) p.nH) with hc | hc
    · obtain ⟨z, hz, hzm⟩ := max_ex (fun y => rSd p s y.toNat) (hndL (upd m x (s : Int)) s p.nH) (fun e => by
        have h1 : (x : Int) ∈ hndL (upd m x (s : Int)) s p.nH := hndL_mem.2 ⟨x, hx, upd_at _ _ _, rfl⟩
        rw [e] at h1
        cases h1)
      obtain ⟨z, hz1, hz2, rfl⟩ := hndL_mem.1 hz
      exact ⟨_, _, DaR.swap h hx hw.1 hw.2 hs hp hc hz1 hz2 (fun y hy e => by
        have := hzm y (hndL_mem.2 ⟨y, hy, e, rfl⟩)
        simpa [rSd] using this), hm⟩
    · exact ⟨_, _, DaR.take h hx hw.1 hw.2 hs hp hc, hm⟩
theorem da_ex {p : PlanD} (hok : okPlan p = true) : ∃ m a, DaR p m a ∧ DaEnd p m a := by
  have : ∀ k m a, DaR p m a → msr p a ≤ k → ∃ m a, DaR p m a ∧ DaEnd p m a := by
    intro k
    induction k with
    | zero =>
      intro m a h hk
      refine ⟨m, a, h, Classical.byContradiction fun hn => ?_⟩
      obtain ⟨-, a', -, h2⟩ := da_step hok h hn
      omega
    | succ k ih =>
      intro m a h hk
      by_cases hn : DaEnd p m a
      · exact ⟨m, a, h, hn⟩
      · obtain ⟨m', a', h1, h2⟩ := da_step hok h hn
        exact ih m' a' h1 (by omega)
  exact this _ _ _ DaR.start (Nat.le_refl _)
/-- Two best ones are one. -/
theorem best_one {p : PlanD} {m u : Nat → Int} (hok : okPlan p = true) (h1 : Stb p m) (h2 : Stb p u) (h3 : ∀ x, x < p.nH → rHd p x (m x) ≤ rHd p x (u x)) (h4 : ∀ x, x < p.nH → rHd p x (u x) ≤ rHd p x (m x)) : ∀ x, x < p.nH → m x = u x := fun x hx =>
  h1.same hok h2 hx (by have := h3 x hx; have := h4 x hx; omega)
end Go.Proofs.Ytiigcjcolpmafaa
