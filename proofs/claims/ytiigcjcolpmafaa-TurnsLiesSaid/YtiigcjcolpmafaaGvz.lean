/- A part of the proof: Gvz. -/
import Derived.Test.YtiigcjcolpmafaaTwz
namespace Go.Proofs.Ytiigcjcolpmafaa
open Go.RowKit

/-- F's lists of the first k numbers, one after another. -/
def fmTo {α : Type} (F : Nat → List α) : Nat → List α
  | 0 => []
  | k + 1 => fmTo F k ++ F k
theorem fmTo_congr {α : Type} {F G : Nat → List α} : ∀ {n : Nat}, (∀ k, k < n → F k = G k) → fmTo F n = fmTo G n := by
  intro n
  induction n with
  | zero => intro _; rfl
  | succ n ih =>
    intro h
    simp only [fmTo]
    rw [ih (fun k hk => h k (by omega)), h n (by omega)]
theorem fmTo_nil {α : Type} {F : Nat → List α} : ∀ {n : Nat}, (∀ k, k < n → F k = []) → fmTo F n = [] := by
  intro n
  induction n with
  | zero => intro _; rfl
  | succ n ih =>
    intro h
    simp only [fmTo]
    rw [ih (fun k hk => h k (by omega)), h n (by omega)]
    rfl
/-- What the program's search finds from hand h on, d hands left. -/
def gvL (p : PlanD) : Nat → Nat → (Nat → Int) → List (List Int)
  | 0, _, m => if stabB p m then [lst p.nH m] else []
  | d + 1, h, m => gvL p d (h + 1) m ++ fmTo (fun s => if possB p h (s : Int) && decide ((cnt m (s : Int) p.nH : Int) < p.pl s) then gvL p d (h + 1) (upd m h (s : Int)) else []) p.nS
/-- What the reference's search finds. -/
def stL (p : PlanD) : Nat → Nat → (Nat → Int) → List (List Int)
  | 0, _, m => if okMat p p.nH m && stabB p m then [lst p.nH m] else []
  | d + 1, h, m => stL p d (h + 1) (upd m h (-1)) ++ fmTo (fun s => if possB p h (s : Int) then stL p d (h + 1) (upd m h (s : Int)) else []) p.nS
/-- The hands from h on have nothing, and nothing is wrong before. -/
def PreM (p : PlanD) (h : Nat) (m : Nat → Int) : Prop := (∀ x, h ≤ x → m x = -1) ∧ ∀ x, x < p.nH → matP p m x = true
theorem cnt_congr {m m' : Nat → Int} {s : Int} : ∀ {n : Nat}, (∀ x, x < n → m x = m' x) → cnt m s n = cnt m' s n := by
  intro n
  induction n with
  | zero => intro _; rfl
  | succ n ih =>
    intro h
    simp only [cnt]
    rw [h n (by omega), ih (fun x hx => h x (by omega))]
theorem cnt_upd_out {m : Nat → Int} {s y : Int} {n h : Nat} (hh : n ≤ h) : cnt (upd m h y) s n = cnt m s n :=
  cnt_congr (fun x hx => upd_ne m y (by omega))
theorem cnt_mono {m : Nat → Int} {s : Int} {k n : Nat} (h : k ≤ n) : cnt m s k ≤ cnt m s n := by
  induction h with
  | refl => exact Nat.le_refl _
  | step _ ih =>
    simp only [cnt]
    split <;> omega
theorem cnt_upd {m : Nat → Int} {s t : Int} {n h : Nat} (hh : h < n) (hm : m h ≠ t) : cnt (upd m h s) t n = cnt m t n + (if s = t then 1 else 0) := by
  induction n with
  | zero => omega
  | succ n ih =>
    rcases Nat.lt_or_ge h n with hl | hl
    · have := ih hl
      simp only [cnt]
      rw [upd_ne m s (by omega), this]
      split <;> omega
    · obtain rfl : h = n := by omega
      simp only [cnt]
      rw [upd_at, cnt_upd_out (Nat.le_refl _), if_neg hm]
      split <;> rfl
theorem cnt_rest {m : Nat → Int} {s : Int} {h n : Nat} (hn : h ≤ n) (hr : ∀ x, h ≤ x → m x = -1) (hs : s ≠ -1) : cnt m s n = cnt m s h := by
  induction hn with
  | refl => rfl
  | @step k hk ih =>
    simp only [cnt]
    rw [if_neg (by rw [hr k hk]; omega), ih]
/-- Once a shift has too many, nothing is found. -/
theorem stL_full (p : PlanD) (s : Nat) (hpl : 0 ≤ p.pl s) : ∀ d h m, h + d = p.nH → p.pl s < (cnt m (s : Int) h : Int) → stL p d h m = [] := by
  intro d
  induction d with
  | zero =>
    intro h m hd hc
    have hnH : h = p.nH := by omega
    rw [hnH] at hc
    obtain ⟨x, hx, hmx⟩ := cnt_pos (m := m) (s := (s : Int)) (n := p.nH) (by omega)
    have hP : matP p m x = false := by
      unfold matP
      rw [hmx, Int.toNat_natCast, decide_eq_false (show ¬ (s : Int) = -1 by omega), decide_eq_false (show ¬ (cnt m (s : Int) p.nH : Int) ≤ p.pl s by omega)]
      simp
    have : okMat p p.nH m = false := by
      unfold okMat
      rw [allB_f hx hP]
      simp
    simp only [stL]
    rw [this]
    rfl
  | succ d ih =>
    intro h m hd hc
    have hle : ∀ y, p.pl s < (cnt (upd m h y) (s : Int) (h + 1) : Int) := fun y => by
      have h1 := cnt_mono (m := upd m h y) (s := (s : Int)) (show h ≤ h + 1 by omega)
      rw [cnt_upd_out (Nat.le_refl _)] at h1
      omega
    simp only [stL]
    rw [ih (h + 1) _ (by omega) (hle _), fmTo_nil]
    · rfl
    · intro k hk
      rw [ih (h + 1) _ (by omega) (hle _)]
      split <;> rfl
/-- The program finds what the reference finds. -/
theorem gvL_eq (p : PlanD) (hok : okPlan p = true) : ∀ d h m, h + d = p.nH → PreM p h m → gvL p d h m = stL p d h m := by
  intro d
  induction d with
  | zero =>
    intro h m hd hP
    have : okMat p p.nH m = true := by
      unfold okMat
      rw [hok, decide_eq_true rfl, allB_iff.2 hP.2]
      rfl
    simp only [gvL, stL]
    rw [this, Bool.true_and]
  | succ d ih =>
    intro h m hd hP
    have hmh : m h = -1 := hP.1 h (Nat.le_refl _)
    have hu : upd m h (-1) = m := by
      funext x
      unfold upd
      split
      · rename_i e; rw [e, hmh]
      · rfl
    simp only [gvL, stL]
    rw [hu, ih (h + 1) m (by omega) ⟨fun x hx => hP.1 x (by omega), hP.2⟩]
    congr 1
    refine fmTo_congr (fun s hs => ?_)
    cases hpo : possB p h (s : Int) with
    | false => simp
    | true =>
      rw [Bool.true_and, if_pos rfl]
      have hpl := (okPlan_of hok).2.1 s (by have := (okPlan_of hok).1; omega)
      by_cases hc : (cnt m (s : Int) p.nH : Int) < p.pl s
      · rw [if_pos (decide_eq_true hc)]
        refine ih (h + 1) _ (by omega) ⟨fun x hx => by rw [upd_ne m _ (by omega)]; exact hP.1 x (by omega), fun x hx => ?_⟩
        by_cases e : x = h
        · subst e
          unfold matP
          rw [upd_at, hpo, Int.toNat_natCast, cnt_upd hx (by rw [hmh]; omega), if_pos rfl, decide_eq_true (show (((cnt m (s : Int) p.nH + 1 : Nat)) : Int) ≤ p.pl s by omega)]
          simp
        · have hx2 := hP.2 x hx
          unfold matP at hx2 ⊢
          rw [upd_ne m _ e]
          by_cases e1 : m x = -1
          · rw [decide_eq_true e1]; rfl
          · rw [decide_eq_false e1, Bool.false_or] at hx2 ⊢
            rw [cnt_upd (by omega) (by rw [hmh]; exact fun e => e1 e.symm)]
            by_cases e2 : (s : Int) = m x
            · rw [if_pos e2, ← e2]
              rw [← e2, Bool.and_eq_true] at hx2
              rw [hx2.1, Int.toNat_natCast, decide_eq_true (show (((cnt m (s : Int) p.nH + 1 : Nat)) : Int) ≤ p.pl s by omega)]
              rfl
            · rw [if_neg e2]
              exact hx2
      · rw [if_neg (by rw [decide_eq_false hc]; simp)]
        refine (stL_full p s (by omega) d (h + 1) _ (by omega) ?_).symm
        have h1 : cnt (upd m h (s : Int)) (s : Int) (h + 1) = cnt m (s : Int) h + 1 := by
          simp only [cnt]
          rw [upd_at, if_pos rfl, cnt_upd_out (Nat.le_refl _)]
        have h2 := cnt_rest (m := m) (s := (s : Int)) (h := h) (n := p.nH) (by omega) hP.1 (by omega)
        omega
end Go.Proofs.Ytiigcjcolpmafaa

