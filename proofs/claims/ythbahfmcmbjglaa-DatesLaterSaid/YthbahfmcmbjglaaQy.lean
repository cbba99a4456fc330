/- Releases and Dues moved by y move the plan by y. -/
import Derived.Test.YthbahfmcmbjglaaQv
namespace Go.Proofs.Ythbahfmcmbjglaa

/-- Moved by y. -/
def mvJ (J : Nat → Nat → Int) (y : Int) : Nat → Nat → Int := fun k i => if i = 1 ∨ i = 2 then J k i + y else J k i
theorem mvJ0 (J : Nat → Nat → Int) (y : Int) (k : Nat) : mvJ J y k 0 = J k 0 := by simp [mvJ]
theorem mvJ1 (J : Nat → Nat → Int) (y : Int) (k : Nat) : mvJ J y k 1 = J k 1 + y := by simp [mvJ]
theorem mvJ2 (J : Nat → Nat → Int) (y : Int) (k : Nat) : mvJ J y k 2 = J k 2 + y := by simp [mvJ]
theorem mvJ3 (J : Nat → Nat → Int) (y : Int) (k : Nat) : mvJ J y k 3 = J k 3 := by simp [mvJ]
section
variable {n : Nat} {J : Nat → Nat → Int} {y : Nat}
theorem chF_mv (left : Nat → Int) (t : Nat) : ∀ k, chF left (fun k => mvJ J y k 1) (rkF 0 (mvJ J y) left) ((y + t : Nat) : Int) k = chF left (fun k => J k 1) (rkF 0 J left) (t : Int) k := by
  intro k
  induction k with
  | zero => rfl
  | succ k ih =>
    rw [chF, chF, ih]
    have ha : avl left (fun k => mvJ J y k 1) ((y + t : Nat) : Int) k = avl left (fun k => J k 1) (t : Int) k := by
      unfold avl
      congr 1
      exact decide_eq_decide.2 (by show mvJ J y k 1 ≤ _ ↔ J k 1 ≤ _; rw [mvJ1]; push_cast; omega)
    have hr : ∀ c, (rkF 0 (mvJ J y) left k < rkF 0 (mvJ J y) left c ↔ rkF 0 J left k < rkF 0 J left c) := fun c => by
      show (mvJ J y k 2 < mvJ J y c 2 ↔ J k 2 < J c 2)
      rw [mvJ2, mvJ2]
      omega
    rw [ha]
    simp only [hr]
/-- One state is the other, moved. -/
structure MvS (y : Nat) (s s' : PSt) : Prop where
  left : s'.left = s.left
  m : s'.m = s.m
  p : ∀ a, a < s.m → s'.p a 0 = s.p a 0 ∧ s'.p a 1 = s.p a 1 + y ∧ s'.p a 2 = s.p a 2 + y
theorem mvS_push {s s' : PSt} (h : MvS y s s') (j : Int) (t : Nat) : MvS y (pushS s j (t : Int)) (pushS s' j ((y + t : Nat) : Int)) := by
  obtain ⟨h1, h2, h3⟩ := h
  have hc : (0 < s'.m ∧ s'.p (s'.m - 1) 0 = j) ↔ (0 < s.m ∧ s.p (s.m - 1) 0 = j) := by
    rw [h2]
    refine and_congr_right (fun hp => ?_)
    rw [(h3 (s.m - 1) (by omega)).1]
  unfold pushS
  by_cases e : 0 < s.m ∧ s.p (s.m - 1) 0 = j
  · rw [if_pos e, if_pos (hc.2 e)]
    refine ⟨by show upd s'.left _ _ = upd s.left _ _; rw [h1], h2, fun a ha => ?_⟩
    have ha : a < s.m := ha
    have h4 := h3 a ha
    show updK s'.p (s'.m - 1) 2 _ a 0 = updK s.p (s.m - 1) 2 _ a 0 ∧ updK s'.p (s'.m - 1) 2 _ a 1 = updK s.p (s.m - 1) 2 _ a 1 + y ∧ updK s'.p (s'.m - 1) 2 _ a 2 = updK s.p (s.m - 1) 2 _ a 2 + y
    rw [h2, updK_ne _ _ (.inr (by omega)), updK_ne _ _ (.inr (by omega)), updK_ne _ _ (.inr (by omega)), updK_ne _ _ (.inr (by omega))]
    refine ⟨h4.1, h4.2.1, ?_⟩
    by_cases e2 : a = s.m - 1
    · subst e2
      rw [updK_at, updK_at]
      omega
    · rw [updK_ne _ _ (.inl e2), updK_ne _ _ (.inl e2)]
      exact h4.2.2
  · rw [if_neg e, if_neg (fun h => e (hc.1 h))]
    refine ⟨by show upd s'.left _ _ = upd s.left _ _; rw [h1], by show s'.m + 1 = s.m + 1; rw [h2], fun a ha => ?_⟩
    have ha : a < s.m + 1 := ha
    show pcK s'.p s'.m _ _ _ a 0 = pcK s.p s.m _ _ _ a 0 ∧ pcK s'.p s'.m _ _ _ a 1 = pcK s.p s.m _ _ _ a 1 + y ∧ pcK s'.p s'.m _ _ _ a 2 = pcK s.p s.m _ _ _ a 2 + y
    rw [h2]
    unfold pcK
    by_cases e2 : a = s.m
    · simp only [if_pos e2]
      simp
      omega
    · simp only [if_neg e2]
      exact h3 a (by omega)
theorem stF_mv0 (h : okJ n J = true) : ∀ t, t ≤ y → stF 0 n (mvJ J y) t = stF 0 n (mvJ J y) 0 := by
  intro t
  induction t with
  | zero => intro _; rfl
  | succ t ih =>
    intro ht
    rw [stF_succ, ih (by omega)]
    unfold stp
    rcases chF_spec (left := (stF 0 n (mvJ J y) 0).left) (r := fun k => mvJ J y k 1) (rk := rkF 0 (mvJ J y) (stF 0 n (mvJ J y) 0).left) (now := (t : Int)) n with ⟨e, -⟩ | ⟨j, hj, -, ha, -, -⟩
    · rw [e, if_pos (by omega)]
    · exfalso
      have h1 := (okJ_iff.1 h).2 j hj
      simp [avl, mvJ1] at ha
      omega
theorem stF_mv (h : okJ n J = true) : ∀ t, MvS y (stF 0 n J t) (stF 0 n (mvJ J y) (y + t)) := by
  intro t
  induction t with
  | zero =>
    rw [Nat.add_zero, stF_mv0 h y (Nat.le_refl _)]
    exact ⟨funext fun k => mvJ0 J y k, rfl, fun a ha => absurd ha (Nat.not_lt_zero _)⟩
  | succ t ih =>
    rw [← Nat.add_assoc, stF_succ, stF_succ]
    unfold stp
    rw [ih.left, chF_mv]
    by_cases hc : chF (stF 0 n J t).left (fun k => J k 1) (rkF 0 J (stF 0 n J t).left) (t : Int) n < 0
    · rw [if_pos hc, if_pos hc]
      exact ih
    · rw [if_neg hc, if_neg hc]
      exact mvS_push ih _ t
theorem plS_mv (h : okJ n J = true) (h' : okJ n (mvJ J y) = true) : MvS y (plS 0 n J) (plS 0 n (mvJ J y)) := by
  have h1 := stF_mv (y := y) h 260
  have h2 := stF_stays (ru := 0) (plS_left (ru := 0) h') y
  have h3 : stF 0 n (mvJ J y) (y + 260) = plS 0 n (mvJ J y) := by
    rw [Nat.add_comm]
    exact h2
  rw [h3] at h1
  exact h1
/-- Without a piece nothing is done and no end stands; with one the end moves. -/
theorem enF_mv {m : Nat} {p p' : Nat → Nat → Int} : ∀ m, (∀ a, a < m → p' a 0 = p a 0 ∧ p' a 1 = p a 1 + y ∧ p' a 2 = p a 2 + y) → ∀ k, enF p' m k = enF p m k + y ∨ dnF p m k = 0 := by
  intro m
  induction m with
  | zero => intro _ k; exact .inr rfl
  | succ m ih =>
    intro h k
    have h1 := h m (by omega)
    have h2 := ih (fun a ha => h a (by omega)) k
    rw [enF, enF, dnF, h1.1, h1.2.2]
    unfold upd
    by_cases e : k = (p m 0).toNat
    · rw [if_pos e, if_pos e]
      exact .inl rfl
    · rw [if_neg e, if_neg e, if_neg e]
      exact h2
theorem ends_mv (h : okJ n J = true) (h' : okJ n (mvJ J y) = true) : ∀ k, k < n → enF (plS 0 n (mvJ J y)).p (plS 0 n (mvJ J y)).m k = enF (plS 0 n J).p (plS 0 n J).m k + y := by
  intro k hk
  have hm := plS_mv h h'
  rw [hm.m]
  rcases enF_mv (m := 0) (plS 0 n J).m hm.p k with h1 | h1
  · exact h1
  · exfalso
    have h2 := (stF_gap (ru := 0) h 260).done k hk
    have h3 := plS_left (ru := 0) h k hk
    have h4 := (okJ_iff.1 h).2 k hk
    have h2 : dnF (plS 0 n J).p (plS 0 n J).m k = J k 0 - (plS 0 n J).left k := h2
    omega
theorem dl_mv (h : okJ n J = true) (h' : okJ n (mvJ J y) = true) {d x : Int} (hd : IsDl n J (enF (plS 0 n J).p (plS 0 n J).m) d) (hx : IsDl n (mvJ J y) (enF (plS 0 n (mvJ J y)).p (plS 0 n (mvJ J y)).m) x) : x = d := by
  have he := ends_mv (y := y) h h'
  obtain ⟨d1, a, ha, d2⟩ := hd
  obtain ⟨x1, b, hb, x2⟩ := hx
  have h1 := d1 b hb
  have h2 := x1 a ha
  rw [he a ha, mvJ2] at h2
  rw [he b hb, mvJ2] at x2
  omega
end
end Go.Proofs.Ythbahfmcmbjglaa
