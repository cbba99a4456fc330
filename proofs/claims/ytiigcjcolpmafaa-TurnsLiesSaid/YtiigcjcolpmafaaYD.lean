/- Part of the proof: YD. -/
import Derived.Test.YtiigcjcolpmafaaYC
import Derived.Test.YtiigcjcolpmafaaLW
/- Another list of one hand: nobody else fares worse when a hand is gone; no hand gains by another list. -/
namespace Go.Proofs.Ytiigcjcolpmafaa

/-- The plan in which hand h gives another list. -/
def setH (p : PlanD) (h L : Nat) (f : Nat → Int) : PlanD := { p with LH := fun i => if i = h then L else p.LH i, vH := fun i => if i = h then f else p.vH i }
section
variable {p : PlanD} {h L : Nat} {f : Nat → Int}
theorem setH_ok (hok : okPlan p = true) (hf : RowOk f L p.nS) : okPlan (setH p h L f) = true := by
  obtain ⟨h1, h2, h3, h4⟩ := okPlan_of hok
  refine decide_eq_true ⟨h1, h2, fun i hi => ?_, h4⟩
  show RowOk (if i = h then f else p.vH i) (if i = h then L else p.LH i) p.nS
  by_cases e : i = h
  · rw [if_pos e, if_pos e]
    exact hf
  · rw [if_neg e, if_neg e]
    exact h3 i hi
theorem setH_row (hq : okPlan (setH p h L f) = true) (hh : h < p.nH) : RowOk f L p.nS := by
  have := (okPlan_of hq).2.2.1 h hh
  have this : RowOk (if h = h then f else p.vH h) (if h = h then L else p.LH h) p.nS := this
  rw [if_pos rfl, if_pos rfl] at this
  exact this
theorem setH_v {y : Nat} (e : y ≠ h) : (setH p h L f).vH y = p.vH y := if_neg e
theorem setH_L {y : Nat} (e : y ≠ h) : (setH p h L f).LH y = p.LH y := if_neg e
theorem setH_vh : (setH p h L f).vH h = f := if_pos rfl
theorem setH_Lh : (setH p h L f).LH h = L := if_pos rfl
theorem setH_poss {y : Nat} {s : Int} (e : y ≠ h) : possB (setH p h L f) y s = possB p y s := by
  unfold possB
  rw [setH_v e, setH_L e]
  rfl
theorem setH_rHd {y : Nat} {s : Int} (e : y ≠ h) : rHd (setH p h L f) y s = rHd p y s := by
  unfold rHd
  rw [setH_v e, setH_L e]
theorem setH_possh {s : Int} : possB (setH p h L f) h s = true ↔ 0 ≤ idxI f s L ∧ 0 ≤ idxI (p.vS s.toNat) (h : Int) (p.LS s.toNat) := by
  rw [poss_if2, setH_vh, setH_Lh]
  exact Iff.rfl
theorem setH_rHdh {s : Int} : rHd (setH p h L f) h s = rkI f L s := by
  unfold rHd
  rw [setH_vh, setH_Lh]
end
theorem idxI_cut {f : Nat → Int} {x : Int} {K L : Nat} (hk : K ≤ L) (h0 : 0 ≤ idxI f x L) (hl : idxI f x L < K) : idxI f x K = idxI f x L := by
  rcases idxI_cases f x L with ⟨e, -⟩ | ⟨k, hk2, e, h1, h2⟩
  · omega
  · rw [e] at hl ⊢
    exact idxI_some h2 h1 K (by omega)
theorem idxI_grow {f : Nat → Int} {x : Int} {K L : Nat} (hk : K ≤ L) (h0 : 0 ≤ idxI f x K) : idxI f x L = idxI f x K := by
  rcases idxI_cases f x K with ⟨e, -⟩ | ⟨k, hk2, e, h1, h2⟩
  · omega
  · rw [e]
    exact idxI_some h2 h1 L (by omega)
/-- A hand that takes nothing: nobody else fares worse. -/
theorem more_le {p : PlanD} {h : Nat} {f : Nat → Int} {m a m' a' : Nat → Int} (hok : okPlan p = true) (hq : okPlan (setH p h 0 f) = true) (hD : DaR p m a) (hE : DaEnd p m a) (hD' : DaR (setH p h 0 f) m' a') (hE' : DaEnd (setH p h 0 f) m' a') {x : Nat} (hx : x < p.nH) (hne : x ≠ h) : rHd p x (m' x) ≤ rHd p x (m x) := by
  have hS := hD.stb hok hE
  have hno : ∀ {s : Int}, ¬ 0 ≤ idxI ((setH p h 0 f).vH h) s ((setH p h 0 f).LH h) := fun {s} h1 => by
    rw [setH_vh, setH_Lh] at h1
    have : idxI f s 0 = -1 := rfl
    omega
  have hU : Unb (setH p h 0 f) m := ⟨hS.cap, fun y s z hy hs hz hp hl e => by
    by_cases ey : y = h
    · subst ey
      exact absurd (poss_if2.1 hp).1 hno
    · rw [setH_poss ey] at hp
      rw [setH_rHd ey, setH_rHd ey] at hl
      exact (hS.nob y s hy hs hp hl).2 z hz e, fun y hy hi => by
    by_cases ey : y = h
    · subst ey
      exact absurd hi hno
    · rw [setH_poss ey]
      rw [setH_v ey, setH_L ey] at hi
      exact (hS.unb hok).mat y hy hi⟩
  have := hD'.best hq hE' hU hx
  rw [setH_rHd hne, setH_rHd hne] at this
  exact this
theorem more_none {p : PlanD} {h : Nat} {f : Nat → Int} {m' a' : Nat → Int} (hq : okPlan (setH p h 0 f) = true) (hD' : DaR (setH p h 0 f) m' a') (hE' : DaEnd (setH p h 0 f) m' a') (hh : h < p.nH) : m' h = -1 := by
  rcases (hD'.stb hq hE').mat h hh with e | e
  · exact e
  · have := (setH_possh.1 e).1
    have : idxI f (m' h) 0 = -1 := rfl
    omega
/-- No hand gains by another list. -/
theorem honest {p : PlanD} {h L : Nat} {f : Nat → Int} {m a b c : Nat → Int} (hok : okPlan p = true) (hq : okPlan (setH p h L f) = true) (hh : h < p.nH) (hD : DaR p m a) (hE : DaEnd p m a) (hD' : DaR (setH p h L f) b c) (hE' : DaEnd (setH p h L f) b c) : rHd p h (m h) ≤ rHd p h (b h) := by
  rcases Int.lt_or_le (rHd p h (b h)) (rHd p h (m h)) with hlt | hle
  · exfalso
    have hSb := hD'.stb hq hE'
    have hup : rHd p h (m h) ≤ p.LH h := (rkI_bd _ _ _).2
    have hlist : 0 ≤ idxI (p.vH h) (b h) (p.LH h) := rkI_lt.1 (by unfold rHd at *; omega)
    have hrow := (okPlan_of hok).2.2.1 h hh
    have hrng := RowOk.rng hrow hlist
    obtain ⟨t, ht⟩ : ∃ t : Nat, b h = t := ⟨(b h).toNat, by omega⟩
    have hpq : possB (setH p h L f) h (b h) = true := by
      rcases hSb.mat h hh with e | e
      · omega
      · exact e
    rw [ht] at hlist hlt hpq
    have hvs := (setH_possh.1 hpq).2
    have hpt : possB p h t = true := poss_if2.2 ⟨hlist, hvs⟩
    obtain ⟨jt, hjt⟩ : ∃ j : Nat, rHd p h t = j := ⟨(rHd p h t).toNat, by have := rHd_nn p h t; omega⟩
    have hjl : jt < p.LH h := by have := rHd_poss hpt; omega
    have hjt2 : idxI (p.vH h) t (p.LH h) = jt := by
      have := (rkI_sm2 hlist).1
      unfold rHd at hjt
      omega
    -- the list of t alone
    have hrow1 : RowOk (fun _ => (t : Int)) 1 p.nS := ⟨by omega, fun a ha => by
      obtain rfl : a = 0 := by omega
      exact ⟨by show (0 : Int) ≤ t; omega, by show (t : Int) < p.nS; omega, rfl⟩⟩
    have hok1 := setH_ok (h := h) hok hrow1
    have hi1 : ∀ s : Int, 0 ≤ idxI (fun _ => (t : Int)) s 1 → s = t := fun s hs => by
      rcases idxI_cases (fun _ => (t : Int)) s 1 with ⟨e, -⟩ | ⟨k, -, -, e, -⟩
      · omega
      · exact e.symm
    have hi2 : idxI (fun _ => (t : Int)) t 1 = 0 := by simp [idxI]
    have hSb1 : Stb (setH p h 1 (fun _ => (t : Int))) b := by
      refine ⟨fun x hx => ?_, hSb.cap, fun y s hy hs hp hl => ?_⟩
      · by_cases e : x = h
        · subst e
          rw [ht]
          exact .inr (setH_possh.2 ⟨by rw [hi2]; omega, hvs⟩)
        · have := hSb.mat x hx
          rw [setH_poss e] at this ⊢
          exact this
      · by_cases e : y = h
        · subst e
          rw [setH_rHdh, setH_rHdh, ht] at hl
          have h1 := (rkI_sm2 (f := fun _ => (t : Int)) (L := 1) (x := t) (by rw [hi2]; omega)).1
          have h2 := rkI_bd (fun _ => (t : Int)) 1 (s : Int)
          rw [h1, hi2] at hl
          omega
        · rw [setH_poss e] at hp
          rw [setH_rHd e, setH_rHd e] at hl
          exact hSb.nob y s hy hs (by rw [setH_poss e]; exact hp) (by rw [setH_rHd e, setH_rHd e]; exact hl)
    -- their own list up to t
    have hrow2 : RowOk (p.vH h) (jt + 1) p.nS := ⟨by have := hrow.1; omega, fun a ha => hrow.2 a (by omega)⟩
    have hok2 := setH_ok (h := h) hok hrow2
    obtain ⟨l, al, hDl, hEl⟩ := da_ex hok2
    have hSl := hDl.stb hok2 hEl
    have hcut : ∀ s : Int, 0 ≤ idxI (p.vH h) s (jt + 1) → idxI (p.vH h) s (p.LH h) = idxI (p.vH h) s (jt + 1) := fun s hs => idxI_grow (by omega) hs
    have hcut2 : ∀ s : Int, 0 ≤ idxI (p.vH h) s (p.LH h) → idxI (p.vH h) s (p.LH h) < (jt + 1 : Nat) → idxI (p.vH h) s (jt + 1) = idxI (p.vH h) s (p.LH h) := fun s h0 hs => idxI_cut (by omega) h0 hs
    have hlh : l h ≠ -1 := fun e => by
      have hSl1 : Stb (setH p h 1 (fun _ => (t : Int))) l := by
        refine ⟨fun x hx => ?_, hSl.cap, fun y s hy hs hp hl => ?_⟩
        · by_cases ex : x = h
          · subst ex
            exact .inl e
          · have := hSl.mat x hx
            rw [setH_poss ex] at this ⊢
            exact this
        · by_cases ey : y = h
          · subst ey
            have hst := hi1 s (setH_possh.1 hp).1
            have hst : s = t := by omega
            subst hst
            have e1 := hcut2 s hlist (by omega)
            refine hSl.nob y s hy hs (setH_possh.2 ⟨by rw [e1]; exact hlist, hvs⟩) ?_
            rw [setH_rHdh, setH_rHdh, e, (rkI_sm2 (by rw [e1]; exact hlist)).1, e1, hjt2]
            have h3 : rkI (p.vH y) (jt + 1) (-1) = (jt + 1 : Nat) := by
              refine rkI_nn2 ?_
              rcases Int.lt_or_le (idxI (p.vH y) (-1) (jt + 1)) 0 with h4 | h4
              · exact h4
              · have := RowOk.rng hrow2 h4
                omega
            rw [h3]
            omega
          · rw [setH_poss ey] at hp
            rw [setH_rHd ey, setH_rHd ey] at hl
            exact hSl.nob y s hy hs (by rw [setH_poss ey]; exact hp) (by rw [setH_rHd ey, setH_rHd ey]; exact hl)
      have := stb_none hok1 hSl1 hSb1 hh e
      omega
    have hpl : possB (setH p h (jt + 1) (p.vH h)) h (l h) = true := by
      rcases hSl.mat h hh with e | e
      · exact absurd e hlh
      · exact e
    obtain ⟨g1, g2⟩ := setH_possh.1 hpl
    have g3 := hcut _ g1
    have g4 := idxI_bd (p.vH h) (l h) (jt + 1)
    have g5 : rHd p h (l h) ≤ jt := by
      unfold rHd
      rw [(rkI_sm2 (by rw [g3]; exact g1)).1, g3]
      omega
    have hSp : Stb p l := by
      refine ⟨fun x hx => ?_, hSl.cap, fun y s hy hs hp hl => ?_⟩
      · by_cases ex : x = h
        · subst ex
          exact .inr (poss_if2.2 ⟨by rw [g3]; exact g1, g2⟩)
        · have := hSl.mat x hx
          rw [setH_poss ex] at this
          exact this
      · by_cases ey : y = h
        · subst ey
          obtain ⟨k1, k2⟩ := poss_if2.1 hp
          have k3 : rHd p y s = idxI (p.vH y) s (p.LH y) := (rkI_sm2 k1).1
          have k4 := hcut2 s k1 (by omega)
          refine hSl.nob y s hy hs (setH_possh.2 ⟨by rw [k4]; exact k1, k2⟩) ?_
          rw [setH_rHdh, setH_rHdh, (rkI_sm2 (by rw [k4]; exact k1)).1, k4, (rkI_sm2 g1).1, ← g3]
          unfold rHd at hl
          rw [(rkI_sm2 k1).1, (rkI_sm2 (by rw [g3]; exact g1)).1] at hl
          exact hl
        · exact hSl.nob y s hy hs (by rw [setH_poss ey]; exact hp) (by rw [setH_rHd ey, setH_rHd ey]; exact hl)
    have := hD.best hok hE (hSp.unb hok) hh
    omega
  · exact hle
/-- The place of a number in a list, 99: it is not there. -/
def atF (f : Nat → Int) (L : Nat) (x : Int) : Int := if 0 ≤ idxI f x L then idxI f x L else 99
theorem atF_le {f : Nat → Int} {L : Nat} (hL : L ≤ 9) {x y : Int} (h : rkI f L x ≤ rkI f L y) : atF f L x ≤ atF f L y := by
  unfold atF
  have h1 := idxI_bd f x L
  have h2 := idxI_bd f y L
  by_cases e : 0 ≤ idxI f y L
  · rw [if_pos e]
    have h3 := rkI_sm2 e
    rw [if_pos (rkI_lt.1 (by omega))]
    rw [(rkI_sm2 (rkI_lt.1 (by omega))).1] at h
    omega
  · rw [if_neg e]
    split <;> omega
theorem atF_bd (f : Nat → Int) (L : Nat) (hL : L ≤ 9) (x : Int) : 0 ≤ atF f L x ∧ atF f L x ≤ 99 := by
  have := idxI_bd f x L
  unfold atF
  split <;> omega
end Go.Proofs.Ytiigcjcolpmafaa

/- The law's Of, with where the lists lie; a list is put in the place of another. -/
namespace Go.Proofs.Ytiigcjcolpmafaa
open Go.RowKit

/-- A slice of n rows in a block of the call's own, which is no block of A'. -/
def RowBk (w : World) (base : Nat) (A A' : Option Addr) (n : Nat) : Prop := 0 < n → ∃ b, A = some ⟨b, 0, none⟩ ∧ base ≤ b ∧ b < w.heap.size ∧ (∀ i, w.frozen? ⟨b, i, none⟩ = false) ∧ ∀ b' o', A' = some ⟨b', o', none⟩ → b' ≠ b
theorem OwnR.blk {w : World} {base n c b o : Nat} {A : Option Addr} {L : Nat → Nat} {v : Nat → Nat → Int} (h : OwnR w base (.slice A n c) n L v) (e : A = some ⟨b, o, none⟩) : base ≤ b ∧ b < w.heap.size := by
  obtain ⟨vals, hl, ho, -⟩ := h
  exact World.ownsRow.lt ho b (by rw [e]; rfl)
theorem OwnR.at0 {w : World} {base n c : Nat} {A : Option Addr} {L : Nat → Nat} {v : Nat → Nat → Int} (h : OwnR w base (.slice A n c) n L v) (hn : 0 < n) : ∃ b, A = some ⟨b, 0, none⟩ ∧ ∀ i, w.frozen? ⟨b, i, none⟩ = false := by
  obtain ⟨vals, hl, ho, -⟩ := h
  have h0 := ho
  rcases h0.2 with ⟨-, e⟩ | ⟨g, cap, cur, e, -⟩
  · omega
  · injection e with e1 e2 e3
    subst e1 e3
    exact ⟨g, rfl, fun i => World.ownsRow.frozenAt ho i⟩
theorem RowBk.of {w : World} {base base' n c s1 s2 : Nat} {A A' : Option Addr} {L : Nat → Nat} {v : Nat → Nat → Int} (h : OwnR w base (.slice A n c) n L v) (hb : base' ≤ base) (h1 : ∀ b o, A = some ⟨b, o, none⟩ → base ≤ b ∧ b < s1) (h2 : ∀ b o, A' = some ⟨b, o, none⟩ → s1 ≤ b ∧ b < s2) : RowBk w base' A A' n := fun hn => by
  obtain ⟨b, e, hf⟩ := h.at0 hn
  have h3 := h.blk e
  have h4 := h1 b 0 e
  exact ⟨b, e, by omega, h3.2, hf, fun b' o' e' => by have := h2 b' o' e'; omega⟩
theorem RowBk.of2 {w : World} {base base' base1 n c s1 s2 : Nat} {A A' : Option Addr} {L : Nat → Nat} {v : Nat → Nat → Int} (h : OwnR w base (.slice A n c) n L v) (hb : base' ≤ base) (h1 : ∀ b o, A' = some ⟨b, o, none⟩ → base1 ≤ b ∧ b < s1) (h2 : ∀ b o, A = some ⟨b, o, none⟩ → s1 ≤ b ∧ b < s2) : RowBk w base' A A' n := fun hn => by
  obtain ⟨b, e, hf⟩ := h.at0 hn
  have h3 := h.blk e
  have h4 := h2 b 0 e
  exact ⟨b, e, by omega, h3.2, hf, fun b' o' e' => by have := h1 b' o' e'; omega⟩
theorem RowBk.keep {w w' : World} {base n : Nat} {A A' : Option Addr} (h : RowBk w base A A' n) (hb : Below w.heap.size w w') : RowBk w' base A A' n := fun hn => by
  obtain ⟨b, e, h1, h2, h3, h4⟩ := h hn
  have := hb.size
  exact ⟨b, e, h1, by omega, fun i => by rw [hb.frozen h2]; exact h3 i, h4⟩
/-- A store where a slice lies leaves integers alone. -/
theorem Ints.setS {w : World} {A : Option Addr} {n : Nat} {f : Nat → Int} (h : Ints w A n f) {a : Addr} {B : Option Addr} {m c : Nat} (ha : w.cell? a = some (.slice B m c)) (x : Value) : Ints (w.setCell a x) A n f := fun hn => by
  obtain ⟨b, o, e, hc⟩ := h hn
  refine ⟨b, o, e, fun k hk => ?_⟩
  rw [World.cell?_setCell_other w _ _ x (fun e2 => by
    have h1 := hc k hk
    rw [← e2, ha] at h1
    injection h1 with h1
    cases h1)]
  exact hc k hk
/-- Hand h's list is another one now. -/
theorem PlanIn.putH {w : World} {AS AP A : Option Addr} {b L c h : Nat} {f : Nat → Int} {p : PlanD} (hp : PlanIn w (some ⟨b, 0, none⟩) AS AP p) (hh : h < p.nH) (hS : ∀ b' o', AS = some ⟨b', o', none⟩ → b' ≠ b) (hI : Ints w A L f) (hLc : L ≤ c) (hL : L ≤ 9) : PlanIn (w.setCell ⟨b, h, none⟩ (.slice A L c)) (some ⟨b, 0, none⟩) AS AP (setH p h L f) := by
  obtain ⟨b0, o0, A0, c0, e0, hc0, -, -⟩ := hp.hands.at hh
  injection e0 with e0
  injection e0 with e1 e2
  subst e1 e2
  rw [Nat.zero_add] at hc0
  refine ⟨fun hn => ⟨b, 0, rfl, fun i hi => ?_⟩, fun hn => ?_, hp.places.setS hc0 _, hp.nH9, hp.nS9, hp.nP9, fun i hi => ?_, hp.sS⟩
  · by_cases e : i = h
    · subst e
      rw [setH_Lh, setH_vh, Nat.zero_add]
      exact ⟨A, c, World.cell?_setCell_same _ _ _ hc0, hLc, hI.setS hc0 _⟩
    · obtain ⟨b1, o1, A1, c1, e1, hc1, h1, h2⟩ := hp.hands.at hi
      injection e1 with e1
      injection e1 with e3 e4
      subst e3 e4
      rw [setH_L e, setH_v e]
      refine ⟨A1, c1, ?_, h1, h2.setS hc0 _⟩
      rw [World.cell?_setCell_other w _ _ _ (fun e2 => e (by injection e2 with _ e3 _; omega))]
      exact hc1
  · obtain ⟨b1, o1, e1, hc1⟩ := hp.shifts hn
    refine ⟨b1, o1, e1, fun i hi => ?_⟩
    obtain ⟨A1, c1, k1, k2, k3⟩ := hc1 i hi
    refine ⟨A1, c1, ?_, k2, k3.setS hc0 _⟩
    rw [World.cell?_setCell_far _ _ _ _ (fun e2 => hS b1 o1 e1 e2.symm)]
    exact k1
  · by_cases e : i = h
    · subst e
      rw [setH_Lh]
      exact hL
    · rw [setH_L e]
      exact hp.sH i hi

set_option maxHeartbeats 1000000 in
set_option maxRecDepth 1000000 in
theorem at_any (A : Option Addr) (L c : Nat) (f : Nat → Int) (x : Int) (w : World) (h : Ints w A L f) (hL : L ≤ 9) : Lr 21 #[.slice A L c, .int .i64 x] w (.int .i64 (atF f L x)) := by
  unfold Lr
  have H := Lib.hid (index_any A L c f x w h (by omega))
  have hd : atF f L x = if 0 ≤ idxI f x L then idxI f x L else 99 := rfl
  have hb := idxI_bd f x L
  clear h
  generalize idxI f x L = r at *
  generalize atF f L x = q at *
  go_enter Try.func21, Try.ntmps21
  go_wp2_with fail
  refine H.out.mono ?_
  rintro e w' ⟨rfl, rfl⟩
  by_cases h0 : 0 ≤ r
  · have E := Lib.hid (hd.trans (if_pos h0))
    have d : decide (0 ≤ r) = true := decide_eq_true h0
    clear hd
    go_wp2
    go_ret
    exact ⟨ret_int E.out.symm, Below.refl _ _⟩
  · have E := Lib.hid (hd.trans (if_neg h0))
    have d : decide (0 ≤ r) = false := decide_eq_false h0
    clear hd
    go_wp2
    go_ret
    exact ⟨ret_int E.out.symm, Below.refl _ _⟩

set_option maxHeartbeats 4000000 in
set_option maxRecDepth 1000000 in
theorem of_own (AH AS AP : Option Addr) (cH cS cP : Nat) (p : PlanD) (w : World) (h : PlanArg w AH AS AP cH cS cP p) :
    Calls Try.prog 18 #[.agg #[.slice AH p.nH cH, .slice AS p.nS cS, .slice AP p.nP cP]] w fun e w' => ∃ BH dH BS dS BP dP, e = .returned (.agg #[.slice BH (min p.nH 8) dH, .slice BS (min p.nS 8) dS, .slice BP (min p.nP 9) dP]) ∧ PlanIn w' BH BS BP (fewP p) ∧ RowBk w' w.heap.size BH BS (min p.nH 8) ∧ RowBk w' w.heap.size BS BH (min p.nS 8) ∧ Below w.heap.size w w' := by
  obtain ⟨W, hW⟩ : ∃ W, W = (w.alloc (.cells #[.slice AH p.nH cH, .slice AS p.nS cS, .slice AP p.nP cP] 25)).alloc (.cells #[.slice none 0 0, .slice none 0 0, .slice none 0 0] 29) := ⟨_, rfl⟩
  have hbW : Below w.heap.size w W := by
    rw [hW]
    exact (below_box w _).trans ((below_box _ _).mono (by simp))
  have hB0 : BoxP W w.heap.size AH AS AP p.nH p.nS p.nP cH cS cP := by
    rw [hW]
    refine ⟨?_, ?_, ?_⟩ <;> simp [World.cell?_alloc_at]
  have hZ : W.heap[w.heap.size + 1]? = some (.cells #[.slice none 0 0, .slice none 0 0, .slice none 0 0] 29 (0, 0)) := by
    rw [hW]
    simpa using heap_alloc_new (w.alloc (.cells #[.slice AH p.nH cH, .slice AS p.nS cS, .slice AP p.nP cP] 25)) (.cells #[.slice none 0 0, .slice none 0 0, .slice none 0 0] 29)
  have hWs : W.heap.size = w.heap.size + 2 := by rw [hW]; simp
  have HA := Lib.hid (h.keep hbW)
  have HB0 := Lib.hid hB0
  have HbW := Lib.hid hbW
  have HZ := Lib.hid hZ
  clear h hB0 hbW hZ
  go_enter Try.func18, Try.ntmps18
  go_wp2_with fail
  rw [← hW]
  have hBc : Below W.heap.size W W.drew := (Dn.refl W).drew.below _
  obtain ⟨q0, q1, q2⟩ := HB0.out.keep hBc
  clear hW
  go_region_held3 (fun w' => w'.cell? ⟨w.heap.size, 0, none⟩ = some (.slice AH p.nH cH) ∧ w'.cell? ⟨w.heap.size, 1, none⟩ = some (.slice AS p.nS cS) ∧ w'.cell? ⟨w.heap.size, 2, none⟩ = some (.slice AP p.nP cP))
    (first | exact (HB0.out.keep hBc) | (refine ⟨?_, ?_, ?_⟩ <;> (rw [World.cell?_setCell_far _ _ _ _ (by simp), World.cell?_setCell_far _ _ _ _ (by simp), World.cell?_setCell_far _ _ _ _ (by simp)]; first | exact (HB0.out.keep hBc).1 | exact (HB0.out.keep hBc).2.1 | exact (HB0.out.keep hBc).2.2)))
    (first
      | (go_at_call_of 54 AH; refine (lists_any AH p.nH cH p.LH p.vH _ (HA.out.keep hBc).hands).mono ?_; rintro e w1 ⟨x1, rfl, hx1, hb1⟩; obtain ⟨BH, dH, rfl, hRH⟩ := hx1.rowsC; have hBc := hBc.trans (hb1.mono hBc.size))
      | (go_at_call_of 54 AS; refine (lists_any AS p.nS cS p.LS p.vS _ (HA.out.keep hBc).shifts).mono ?_; rintro e w2 ⟨x2, rfl, hx2, hb2⟩; obtain ⟨BS, dS, rfl, hRS⟩ := hx2.rowsC; have hBc := hBc.trans (hb2.mono hBc.size))
      | (go_at_call 29; refine (list_any AP p.nP cP p.pl _ (HA.out.keep hBc).places).mono ?_; rintro e w3 ⟨x3, rfl, hx3, hb3⟩; obtain ⟨BP, dP, rfl, hRP⟩ := hx3.shp (lst_len _ _); have hBc := hBc.trans (hb3.mono hBc.size); have hz3 : ZB w3 (w.heap.size + 1) := (hBc.block _ (by omega)).trans HZ.out; have f0 := hz3.frozen 0; have f1 := hz3.frozen 1; have f2 := hz3.frozen 2; have c0 := hz3.cell (show 0 < 3 by omega); have c1 := hz3.cell (show 1 < 3 by omega); have c2 := hz3.cell (show 2 < 3 by omega))
      | fail)
  have hz := zW_cells hz3 (.slice BH (min p.nH 8) dH) (.slice BS (min p.nS 8) dS) (.slice BP (min p.nP 9) dP)
  have hb := zW_below (HbW.out.trans (hBc.mono HbW.out.size)) (show w.heap.size ≤ w.heap.size + 1 by omega) (.slice BH (min p.nH 8) dH) (.slice BS (min p.nS 8) dS) (.slice BP (min p.nP 9) dP)
  have hex := zW_exc w3 (w.heap.size + 1) (.slice BH (min p.nH 8) dH) (.slice BS (min p.nS 8) dS) (.slice BP (min p.nP 9) dP)
  have hWd : W.drew.heap.size = w.heap.size + 2 := hWs
  have hs1 := hb1.size
  have hs2 := hb2.size
  have hpl : PlanIn (zW w3 (w.heap.size + 1) (.slice BH (min p.nH 8) dH) (.slice BS (min p.nS 8) dS) (.slice BP (min p.nP 9) dP)) BH BS BP (fewP p) :=
    ⟨(((hx1.below hb2).below hb3).exc hex (by omega)).toC, ((hx2.below hb3).exc hex (by omega)).toC, OwnL.toI (own_exc hx3 hex (by omega)), (show min p.nH 8 ≤ 9 by omega), (show min p.nS 8 ≤ 9 by omega), Nat.min_le_right _ _, fun _ _ => Nat.min_le_right _ _, fun _ _ => Nat.min_le_right _ _⟩
  have HR1 := Lib.hid (RowBk.of (((hx1.below hb2).below hb3).exc hex (by omega)) (base' := w.heap.size) (by omega) (fun b' o' e => by
    have h1 := OwnR.blk hx1 e
    exact h1) (fun b' o' e => by
    have h1 := OwnR.blk hx2 e
    exact h1))
  have HR2 := Lib.hid (RowBk.of2 ((hx2.below hb3).exc hex (by omega)) (base' := w.heap.size) (by omega) (fun b' o' e => by
    have h1 := OwnR.blk hx1 e
    exact h1) (fun b' o' e => by
    have h1 := OwnR.blk hx2 e
    exact h1))
  have HP := Lib.hid hpl
  have Hb := Lib.hid hb
  change Exit.then _ _ _ _ (zW w3 (w.heap.size + 1) (.slice BH (min p.nH 8) dH) (.slice BS (min p.nS 8) dS) (.slice BP (min p.nP 9) dP))
  clear hpl hb hex hx1 hx2 hx3 hb1 hb2 hb3 hRH hRS hRP f0 f1 f2 c0 c1 c2 hz3 hs1 hs2 hWd q0 q1 q2
  generalize zW w3 (w.heap.size + 1) (.slice BH (min p.nH 8) dH) (.slice BS (min p.nS 8) dS) (.slice BP (min p.nP 9) dP) = WF at *
  obtain ⟨z0, z1, z2⟩ := hz
  go_wp2
  refine bodyPost_ret (v := .agg #[.slice BH (min p.nH 8) dH, .slice BS (min p.nS 8) dS, .slice BP (min p.nP 9) dP]) (by simp [results, Try.results18, go_sem, z0, z1, z2]) rfl ?_
  exact ⟨BH, dH, BS, dS, BP, dP, rfl, HP.out, HR1.out, HR2.out, Hb.out⟩
end Go.Proofs.Ytiigcjcolpmafaa

